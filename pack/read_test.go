package pack_test

import (
	"bytes"
	"math/rand/v2"
	"slices"
	"strings"
	"testing"

	"colloquy/pack"
	"colloquy/varint"
)

// checkRead checks the only field of b, read by c.
func checkRead(t *testing.T, b string, c call, want field) {
	t.Helper()
	r := pack.Read([]byte(b))
	if got := c.read(r); !got.equal(want) {
		t.Fatalf("%x: %v is %v, want %v", b, c, got, want)
	}
	checkDone(t, r, true)
}

// TestReadExamples: promise PK2, fields one after the other.
func TestReadExamples(t *testing.T) {
	r := pack.Read([]byte("\x02ab\x07\x7f\x02\xc0\x00\xbf\x7f\x00\x00"))
	if s := r.Text(10); s != "ab" {
		t.Errorf("Text is %q", s)
	}
	if n := r.Int(0, 10); n != 7 {
		t.Errorf("Int is %d", n)
	}
	if n := r.Int(-10, 10); n != -1 {
		t.Errorf("Int is %d", n)
	}
	if l := r.Ints(10, -100, 100); !slices.Equal(l, []int{64, -65}) {
		t.Errorf("Ints is %d", l)
	}
	if s := r.Text(10); s != "" {
		t.Errorf("Text is %q", s)
	}
	checkDone(t, r, false)
	if l := r.Ints(10, 0, 0); len(l) != 0 {
		t.Errorf("Ints is %d", l)
	}
	checkDone(t, r, true)
}

// TestNoBytes: promise PK2, no bytes are done, unless a field is read.
func TestNoBytes(t *testing.T) {
	for _, b := range [][]byte{nil, {}} {
		checkDone(t, pack.Read(b), true)
		checkDone(t, new(pack.Reader), true)
		for _, kind := range []byte("ILT") {
			r := pack.Read(b)
			if got := wide(kind).read(r); !got.equal(field{kind: kind}) {
				t.Errorf("%c of no bytes is %v", kind, got)
			}
			checkFailed(t, r)
		}
	}
}

// TestNilReader: the sentence ahead of promise PK1, whatever the bounds are.
func TestNilReader(t *testing.T) {
	var r *pack.Reader
	checkFailed(t, r)
	for _, bound := range []int{least, -1, 0, 1, most} {
		if n := r.Int(bound, bound); n != 0 {
			t.Errorf("Int is %d", n)
		}
		if l := r.Ints(bound, bound, bound); l != nil {
			t.Errorf("Ints is %d", l)
		}
		if s := r.Text(bound); s != "" {
			t.Errorf("Text is %q", s)
		}
		checkDone(t, r, false)
	}
}

// TestIntBounds: promise PK2, a number that is equal to each of its bounds, next to it and far from it.
func TestIntBounds(t *testing.T) {
	list := numbers()
	for _, n := range list {
		b := varint.Put(nil, n)
		for _, bound := range list {
			for _, c := range []call{{kind: 'I', lo: bound, hi: most}, {kind: 'I', lo: least, hi: bound}, {kind: 'I', lo: bound, hi: bound}} {
				if c.lo <= n && n <= c.hi {
					checkRead(t, string(b), c, field{kind: 'I', n: n})
				} else {
					checkFails(t, b, c)
				}
			}
		}
		checkFails(t, b, call{kind: 'I', lo: most, hi: least})
		if n != least && n != most {
			checkRead(t, string(b), call{kind: 'I', lo: n - 1, hi: n + 1}, field{kind: 'I', n: n})
			checkFails(t, b, call{kind: 'I', lo: n + 1, hi: most})
			checkFails(t, b, call{kind: 'I', lo: least, hi: n - 1})
			checkFails(t, b, call{kind: 'I', lo: n + 1, hi: n - 1})
		}
	}
}

// TestBadNumbers: promise PK2, bytes that are not the encoding of a number, as a number, as a number of
// elements or bytes, and as an element.
func TestBadNumbers(t *testing.T) {
	for _, bad := range []string{
		"\x80",
		"\xff\xff",
		"\x80\x00",
		"\xff\x7f",
		"\x81\x80\x00",
		"\x80\x80\x80\x80\x80\x80\x80\x80\x80\x01",
		"\xff\xff\xff\xff\xff\xff\xff\xff\xff\xff\x00",
	} {
		b := []byte(bad)
		if b[len(b)-1] < 0x80 {
			checkFails(t, b, wide('I'))
			checkFails(t, b, wide('L'))
			checkFails(t, b, wide('T'))
			checkFails(t, slices.Concat([]byte{2, 1}, b), wide('L'))
		}
		checkReads(t, b, wide('I'), wide('I'))
		checkReads(t, b, wide('L'), wide('I'))
		checkReads(t, b, wide('T'), wide('I'))
		checkReads(t, append([]byte{1}, b...), wide('L'), wide('I'))
	}
}

// TestTextBounds: promise PK2, as many bytes as are allowed and as remain, one more and one fewer.
func TestTextBounds(t *testing.T) {
	for _, size := range []int{0, 1, 2, 63, 64, 65, 1024, 10000} {
		text := strings.Repeat("t", size)
		b := string(varint.Put(nil, size)) + text
		for _, many := range []int{size, size + 1, 2 * size, most} {
			checkRead(t, b, call{kind: 'T', many: many}, field{kind: 'T', text: text})
		}
		for _, many := range []int{size - 1, -1, least} {
			checkFails(t, []byte(b), call{kind: 'T', many: many})
		}
		for _, left := range []int{size - 1, size / 2, 0} {
			if left >= 0 && left < size {
				checkReads(t, []byte(b)[:len(b)-size+left], wide('T'), wide('I'))
			}
		}
		r := pack.Read([]byte(b + "\x05"))
		if got := r.Text(size); got != text {
			t.Errorf("the text of %d bytes is %q", size, got)
		}
		checkDone(t, r, false)
		if n := r.Int(5, 5); n != 5 {
			t.Errorf("the number behind the text of %d bytes is %d", size, n)
		}
	}
}

// TestListBounds: promise PK2, as many elements as are allowed and as bytes remain, one more and one fewer.
func TestListBounds(t *testing.T) {
	for _, size := range []int{0, 1, 2, 63, 64, 65, 256, 10000} {
		list := slices.Repeat([]int{-3}, size)
		b := string(refBytes(field{kind: 'L', list: list}))
		for _, many := range []int{size, size + 1, 2 * size, most} {
			checkRead(t, b, call{'L', many, -3, -3}, field{kind: 'L', list: list})
			checkRead(t, b, call{'L', many, least, most}, field{kind: 'L', list: list})
		}
		for _, many := range []int{size - 1, -1, least} {
			checkFails(t, []byte(b), call{'L', many, least, most})
		}
		if size > 0 {
			checkReads(t, []byte(b)[:len(b)-1], wide('L'), wide('I'))
			checkFails(t, []byte(b), call{'L', size, -2, most})
			checkFails(t, []byte(b), call{'L', size, least, -4})
			checkFails(t, []byte(b), call{'L', size, most, least})
		}
	}
	// No element violates bounds that no number is within.
	checkRead(t, "\x00", call{'L', 0, 1, 0}, field{kind: 'L'})
}

// TestElementBounds: promise PK2, each element in turn is the only one that is outside its bounds.
func TestElementBounds(t *testing.T) {
	for i := range 5 {
		for _, n := range []int{9, 10, 20, 21, 1000, -15} {
			list := []int{10, 20, 15, 10, 20}
			list[i] = n
			b := refBytes(field{kind: 'L', list: list})
			c := call{'L', 5, 10, 20}
			if n < 10 || n > 20 {
				checkFails(t, b, c)
			} else {
				checkRead(t, string(b), c, field{kind: 'L', list: list})
			}
		}
	}
}

// TestCounts: promise PK2, a number of elements or bytes that is below 0, or greater than any text.
func TestCounts(t *testing.T) {
	for _, n := range numbers() {
		b := varint.Put(nil, n)
		for _, many := range []int{least, -1, 0, 100, most} {
			for _, kind := range []byte("LT") {
				c := call{kind, many, least, most}
				checkReads(t, b, c, c)
				if n < 0 || n > many || n > 5 {
					checkFails(t, b, c)
				}
			}
		}
	}
}

// TestCut: promise PK2, fields that are cut short at every place.
func TestCut(t *testing.T) {
	fields := []field{
		{kind: 'I', n: most},
		{kind: 'L', list: []int{1, -1, 64, least, 1 << 20}},
		{kind: 'T', text: "some text"},
		{kind: 'L', list: slices.Repeat([]int{64}, 70)},
		{kind: 'T', text: strings.Repeat("t", 70)},
	}
	for _, f := range fields {
		b := refBytes(f)
		for size := range b {
			checkReads(t, b[:size], exact(f), wide('I'))
			r := pack.Read(b[:size:size])
			if got := exact(f).read(r); !got.equal(field{kind: f.kind}) {
				t.Fatalf("%x is read as %v", b[:size], got)
			}
			checkFailed(t, r)
		}
	}
}

// TestLeft: promise PK2, Done of bytes that are left, which can still be read.
func TestLeft(t *testing.T) {
	for _, f := range []field{{kind: 'I', n: 3}, {kind: 'L', list: []int{1, 2}}, {kind: 'T', text: "ab"}} {
		r := pack.Read(append(refBytes(f), 1, 0x80))
		for range 2 {
			checkDone(t, r, false)
		}
		if got := exact(f).read(r); !got.equal(f) {
			t.Errorf("%v is read as %v", f, got)
		}
		checkDone(t, r, false)
		if n := r.Int(0, 1); n != 1 {
			t.Errorf("Int is %d", n)
		}
		checkDone(t, r, false)
		if n := r.Int(least, most); n != 0 {
			t.Errorf("Int is %d", n)
		}
		checkFailed(t, r)
	}
}

// calls returns calls of each method with narrow and wide bounds, and with bounds that nothing is within.
func calls() []call {
	list := []call{{kind: 'T', many: -1}, {kind: 'T', many: 1}, wide('T')}
	for _, lo := range []int{least, -1, 0, 1} {
		for _, hi := range []int{-2, 0, 2, most} {
			list = append(list, call{'I', 0, lo, hi}, call{'L', 1, lo, hi}, call{'L', 3, lo, hi})
		}
	}
	return list
}

// TestShort: promise PK2, all sequences of up to four of some bytes, against the definition.
func TestShort(t *testing.T) {
	some := []byte{0, 1, 2, 3, 0x3f, 0x7e, 0x7f, 0x80, 0x82, 0xff}
	sequences := [][]byte{nil}
	for i := 0; len(sequences[i]) < 4; i++ {
		for _, c := range some {
			sequences = append(sequences, append(slices.Clone(sequences[i]), c))
		}
	}
	for _, b := range sequences {
		for _, c := range calls() {
			checkReads(t, b, c, call{'I', 0, 0, 2}, wide('T'))
			checkReads(t, b, c, wide('L'), wide('I'))
		}
	}
}

// TestRandom: promise PK2, random fields of which some bytes are changed, added or removed, read by calls
// that fit the fields or not, against the definition.
func TestRandom(t *testing.T) {
	source := rand.New(rand.NewPCG(6, 2))
	for range 50000 {
		fields := randoms(source)
		b := refAll(fields)
		if len(b) > 0 && source.IntN(2) == 0 {
			i := source.IntN(len(b))
			switch source.IntN(4) {
			case 0:
				b = b[:i]
			case 1:
				b[i] = byte(source.Uint32())
			case 2:
				b = slices.Insert(b, i, byte(source.Uint32()))
			case 3:
				b = slices.Delete(b, i, i+1)
			}
		}
		checkReads(t, b, randomCalls(source, fields)...)
	}
}

// randomCalls returns calls of which most read the fields.
func randomCalls(source *rand.Rand, fields []field) []call {
	var list []call
	all := calls()
	for _, f := range append(fields, random(source)) {
		switch source.IntN(10) {
		case 0:
			list = append(list, all[source.IntN(len(all))])
		case 1, 2, 3:
			list = append(list, wide(f.kind))
		default:
			list = append(list, exact(f))
		}
	}
	return list
}

// TestFailedFirst: promise PK2, whichever method fails and for whatever reason, later ones fail too,
// though what follows are fields that would fit.
func TestFailedFirst(t *testing.T) {
	behind := bytes.Repeat([]byte{1}, 100)
	for _, e := range []struct {
		b string
		c call
	}{
		{"\x05", call{'I', 0, 6, 9}},
		{"\x05", call{'I', 0, 0, 4}},
		{"\x80\x00", wide('I')},
		{"\x7f", wide('L')},
		{"\x03\x01\x01\x01", call{'L', 2, 0, 9}},
		{"\xe5\x00", call{'L', 200, 0, 9}},
		{"\x02\x05\x0a", call{'L', 9, 0, 9}},
		{"\x02\x0a\x05", call{'L', 9, 0, 9}},
		{"\x02\x80\x00\x01", wide('L')},
		{"\x7f", wide('T')},
		{"\x03abc", call{kind: 'T', many: 2}},
		{"\xe5\x00", call{kind: 'T', many: 200}},
	} {
		r := pack.Read(slices.Concat([]byte(e.b), behind))
		if got := e.c.read(r); !got.equal(field{kind: e.c.kind}) {
			t.Errorf("%x: %v is %v", e.b, e.c, got)
		}
		checkFailed(t, r)
	}
}
