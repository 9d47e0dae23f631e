package pack_test

import (
	"errors"
	"fmt"
	"math"
	"math/rand/v2"
	"slices"
	"testing"

	"colloquy/api"
	"colloquy/pack"
	"colloquy/varint"
)

// field is a number (I), a list of numbers (L) or a text (T).
type field struct {
	kind byte
	n    int
	list []int
	text string
}

// call is a call of Int (I), Ints (L) or Text (T) of a Reader.
type call struct {
	kind         byte
	many, lo, hi int
}

const (
	least = math.MinInt
	most  = math.MaxInt
)

// errno returns the number of an error, or 0 if there is none.
func errno(t *testing.T, err error) api.Errno {
	t.Helper()
	var n api.Errno
	if err != nil && !errors.As(err, &n) {
		t.Fatalf("error %v has no number", err)
	}
	return n
}

func (f field) String() string {
	return fmt.Sprintf("%c %d %d %q", f.kind, f.n, f.list, f.text)
}

func (c call) String() string {
	return fmt.Sprintf("%c %d %d..%d", c.kind, c.many, c.lo, c.hi)
}

func (f field) write(w *pack.Writer) {
	switch f.kind {
	case 'I':
		w.Int(f.n)
	case 'L':
		w.Ints(f.list)
	case 'T':
		w.Text(f.text)
	}
}

func (c call) read(r *pack.Reader) field {
	f := field{kind: c.kind}
	switch c.kind {
	case 'I':
		f.n = r.Int(c.lo, c.hi)
	case 'L':
		f.list = r.Ints(c.many, c.lo, c.hi)
	case 'T':
		f.text = r.Text(c.many)
	}
	return f
}

func (f field) equal(g field) bool {
	return f.kind == g.kind && f.n == g.n && slices.Equal(f.list, g.list) && f.text == g.text
}

// refBytes returns the bytes of a field by the definition.
func refBytes(f field) []byte {
	switch f.kind {
	case 'L':
		b := varint.Put(nil, len(f.list))
		for _, n := range f.list {
			b = varint.Put(b, n)
		}
		return b
	case 'T':
		return append(varint.Put(nil, len(f.text)), f.text...)
	}
	return varint.Put(nil, f.n)
}

func refAll(fields []field) []byte {
	var b []byte
	for _, f := range fields {
		b = append(b, refBytes(f)...)
	}
	return b
}

// refNumber returns the number that b begins with and the bytes behind it, or false if there is no
// number from lo to hi.
func refNumber(b []byte, lo, hi int) (int, []byte, bool) {
	n, size, err := varint.Get(b)
	if err != nil {
		return 0, nil, false
	}
	return n, b[size:], lo <= n && n <= hi
}

// refRead returns the field that b begins with and the bytes behind it, or false if the call fails.
func refRead(b []byte, c call) (field, []byte, bool) {
	none := field{kind: c.kind}
	if c.kind == 'I' {
		n, rest, ok := refNumber(b, c.lo, c.hi)
		if !ok {
			return none, nil, false
		}
		return field{kind: 'I', n: n}, rest, true
	}
	count, rest, ok := refNumber(b, 0, c.many)
	if !ok || count > len(rest) {
		return none, nil, false
	}
	if c.kind == 'T' {
		return field{kind: 'T', text: string(rest[:count])}, rest[count:], true
	}
	list := make([]int, count)
	for i := range list {
		if list[i], rest, ok = refNumber(rest, c.lo, c.hi); !ok {
			return none, nil, false
		}
	}
	return field{kind: 'L', list: list}, rest, true
}

// checkReads compares a Reader for b to the definition, call by call, with Done before and after each.
func checkReads(t *testing.T, b []byte, calls ...call) {
	t.Helper()
	r := pack.Read(b)
	rest, failed := b, false
	for i, c := range calls {
		checkDone(t, r, !failed && len(rest) == 0)
		want, behind, ok := refRead(rest, c)
		rest, failed = behind, failed || !ok
		if got := c.read(r); !got.equal(want) {
			t.Fatalf("%x: call %d of %v is %v, want %v", b, i, calls, got, want)
		}
	}
	checkDone(t, r, !failed && len(rest) == 0)
}

func checkDone(t *testing.T, r *pack.Reader, done bool) {
	t.Helper()
	want := api.ErrForm
	if done {
		want = 0
	}
	if n := errno(t, r.Done()); n != want {
		t.Fatalf("Done is %d, want %d", n, want)
	}
}

// checkFails checks that a call fails, and with it all later ones, though more bytes follow.
func checkFails(t *testing.T, b []byte, c call) {
	t.Helper()
	for _, behind := range [][]byte{nil, {0}, {1, 1, 1}} {
		r := pack.Read(append(slices.Clone(b), behind...))
		if got := c.read(r); !got.equal(field{kind: c.kind}) {
			t.Fatalf("%x: %v is %v, and does not fail", b, c, got)
		}
		checkFailed(t, r)
	}
}

// checkFailed checks that a Reader has no more bytes, and an error.
func checkFailed(t *testing.T, r *pack.Reader) {
	t.Helper()
	checkDone(t, r, false)
	for _, kind := range []byte("ILTTLI") {
		c := call{kind, most, least, most}
		if got := c.read(r); !got.equal(field{kind: kind}) {
			t.Fatalf("%v after a call that failed is %v", c, got)
		}
		checkDone(t, r, false)
	}
}

// exact returns the call that reads f with the narrowest bounds.
func exact(f field) call {
	switch f.kind {
	case 'I':
		return call{kind: 'I', lo: f.n, hi: f.n}
	case 'T':
		return call{kind: 'T', many: len(f.text)}
	}
	c := call{kind: 'L', many: len(f.list)}
	if len(f.list) > 0 {
		c.lo, c.hi = slices.Min(f.list), slices.Max(f.list)
	}
	return c
}

// wide returns the call that reads any field of a kind.
func wide(kind byte) call {
	return call{kind, most, least, most}
}

// numbers returns the ends of int, the numbers at which an encoding gets one byte longer, and small ones.
func numbers() []int {
	list := []int{least, least + 1, most - 1, most, api.Least, api.Most}
	for shift := 6; shift < 63; shift += 7 {
		p := 1 << shift
		list = append(list, p-1, p, p+1, -p-1, -p, -p+1)
	}
	for n := -5; n <= 5; n++ {
		list = append(list, n)
	}
	return list
}

// random returns a field, the same for the same source each time.
func random(source *rand.Rand) field {
	number := func() int { return int(source.Uint64()) >> source.IntN(64) }
	size := source.IntN(4)
	if source.IntN(20) == 0 {
		size = source.IntN(300)
	}
	switch source.IntN(3) {
	case 0:
		return field{kind: 'I', n: number()}
	case 1:
		list := make([]int, size)
		for i := range list {
			list[i] = number()
		}
		return field{kind: 'L', list: list}
	}
	text := make([]byte, size)
	for i := range text {
		text[i] = byte(source.Uint32())
	}
	return field{kind: 'T', text: string(text)}
}

// randoms returns fewer than ten fields.
func randoms(source *rand.Rand) []field {
	fields := make([]field, source.IntN(10))
	for i := range fields {
		fields[i] = random(source)
	}
	return fields
}
