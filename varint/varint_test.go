package varint_test

import (
	"bytes"
	"math"
	"math/rand/v2"
	"slices"
	"testing"

	"colloquy/api"
	"colloquy/varint"
)

type example struct {
	n        int
	encoding string
}

// examples returns those of the chapter, and the numbers at which an encoding gets one byte longer.
func examples() []example {
	return []example{
		{0, "\x00"},
		{1, "\x01"},
		{2, "\x02"},
		{-1, "\x7f"},
		{-2, "\x7e"},
		{62, "\x3e"},
		{63, "\x3f"},
		{64, "\xc0\x00"},
		{65, "\xc1\x00"},
		{-63, "\x41"},
		{-64, "\x40"},
		{-65, "\xbf\x7f"},
		{-66, "\xbe\x7f"},
		{127, "\xff\x00"},
		{128, "\x80\x01"},
		{129, "\x81\x01"},
		{-127, "\x81\x7f"},
		{-128, "\x80\x7f"},
		{-129, "\xff\x7e"},
		{1<<13 - 1, "\xff\x3f"},
		{1 << 13, "\x80\xc0\x00"},
		{-1 << 13, "\x80\x40"},
		{-1<<13 - 1, "\xff\xbf\x7f"},
		{1<<20 - 1, "\xff\xff\x3f"},
		{1 << 20, "\x80\x80\xc0\x00"},
		{-1 << 20, "\x80\x80\x40"},
		{-1<<20 - 1, "\xff\xff\xbf\x7f"},
		{624485, "\xe5\x8e\x26"},
		{-123456, "\xc0\xbb\x78"},
		{1<<34 - 1, "\xff\xff\xff\xff\x3f"},
		{1 << 34, "\x80\x80\x80\x80\xc0\x00"},
		{-1 << 34, "\x80\x80\x80\x80\x40"},
		{-1<<34 - 1, "\xff\xff\xff\xff\xbf\x7f"},
		{api.Most, "\xff\xff\xff\xff\xff\xff\xff\xff\x1f"},
		{api.Least, "\x80\x80\x80\x80\x80\x80\x80\x80\x60"},
		{1<<62 - 1, "\xff\xff\xff\xff\xff\xff\xff\xff\x3f"},
		{1 << 62, "\x80\x80\x80\x80\x80\x80\x80\x80\xc0\x00"},
		{-1 << 62, "\x80\x80\x80\x80\x80\x80\x80\x80\x40"},
		{-1<<62 - 1, "\xff\xff\xff\xff\xff\xff\xff\xff\xbf\x7f"},
		{math.MaxInt, "\xff\xff\xff\xff\xff\xff\xff\xff\xff\x00"},
		{math.MinInt, "\x80\x80\x80\x80\x80\x80\x80\x80\x80\x7f"},
	}
}

func checkGet(t *testing.T, b []byte, wantN, wantSize int) {
	t.Helper()
	n, size, err := varint.Get(b)
	if n != wantN || size != wantSize || err != nil {
		t.Fatalf("Get(%x) is %d, %d, %v, want %d, %d", b, n, size, err, wantN, wantSize)
	}
}

func checkErrForm(t *testing.T, b []byte) {
	t.Helper()
	n, size, err := varint.Get(b)
	if n != 0 || size != 0 || errno(t, err) != api.ErrForm {
		t.Fatalf("Get(%x) is %d, %d, %v, want error %d", b[:min(len(b), 20)], n, size, err, api.ErrForm)
	}
}

// checkDefinition compares Get to the definition.
func checkDefinition(t *testing.T, b []byte) {
	t.Helper()
	n, size, want := refGet(b)
	if want != 0 {
		checkErrForm(t, b)
		return
	}
	checkGet(t, b, n, size)
}

// TestExamples: promise VI1 and the examples of the chapter, Put and Get.
func TestExamples(t *testing.T) {
	for _, e := range examples() {
		if b := varint.Put(nil, e.n); string(b) != e.encoding {
			t.Errorf("Put(nil, %d) is %x, want %x", e.n, b, e.encoding)
		}
		checkGet(t, []byte(e.encoding), e.n, len(e.encoding))
	}
}

// TestDefinition: promise VI1, Put and Get of all numbers against the definition.
func TestDefinition(t *testing.T) {
	for _, n := range numbers() {
		want := refEncoding(wide(n))
		if len(want) > 10 {
			t.Fatalf("the encoding of %d has %d bytes", n, len(want))
		}
		if b := varint.Put(nil, n); !bytes.Equal(b, want) {
			t.Fatalf("Put(nil, %d) is %x, want %x", n, b, want)
		}
		checkGet(t, want, n, len(want))
	}
}

// before returns what Put may have to keep: no bytes, numbers, and bytes that no number ends.
func before() [][]byte {
	return [][]byte{
		nil,
		{},
		{0},
		{0x7f},
		{0x80},
		{0xff, 0xff},
		[]byte("some text"),
		bytes.Repeat([]byte{0x80}, 10),
		bytes.Repeat([]byte{1, 0xff, 3}, 1000),
	}
}

// TestPutAfter: promise VI1, Put keeps the bytes before the encoding.
func TestPutAfter(t *testing.T) {
	for _, b := range before() {
		for _, e := range examples() {
			want := string(b) + e.encoding
			if got := varint.Put(b, e.n); string(got) != want {
				t.Fatalf("Put(%x, %d) is %x, want %x", b, e.n, got, want)
			}
		}
	}
}

// TestBehind: promises VI1 and VI2, Get returns what Put appended, whatever bytes follow.
func TestBehind(t *testing.T) {
	behind := [][]byte{
		nil,
		{0, 0},
		{0x7f, 0x7f},
		{0x80, 0x00},
		{0xff, 0x7f},
		bytes.Repeat([]byte{0}, 20),
		bytes.Repeat([]byte{0x7f}, 20),
		bytes.Repeat([]byte{0x80}, 20),
		bytes.Repeat([]byte{0xff}, 20),
	}
	for c := range 256 {
		behind = append(behind, []byte{byte(c)})
	}
	for _, n := range numbers() {
		b := varint.Put(nil, n)
		for _, rest := range behind {
			checkGet(t, slices.Concat(b, rest), n, len(b))
		}
	}
}

// TestSequence: promise VI2, numbers that were put one after the other are got one after the other.
func TestSequence(t *testing.T) {
	list := numbers()
	rand.New(rand.NewPCG(4, 2)).Shuffle(len(list), func(i, j int) { list[i], list[j] = list[j], list[i] })
	list = list[:2000]
	var b []byte
	for _, n := range list {
		b = varint.Put(b, n)
	}
	for _, want := range list {
		n, size, err := varint.Get(b)
		if n != want || size < 1 || size > 10 || err != nil {
			t.Fatalf("got %d, %d, %v, want %d", n, size, err, want)
		}
		b = b[size:]
	}
	checkErrForm(t, b)
}

// TestCut: promise VI1, no bytes, and encodings that are cut short, whatever stands behind the slice.
func TestCut(t *testing.T) {
	checkErrForm(t, nil)
	checkErrForm(t, []byte{})
	for _, n := range numbers() {
		b := refEncoding(wide(n))
		for size := range len(b) {
			checkErrForm(t, b[:size])
			checkErrForm(t, slices.Clone(b[:size]))
		}
	}
}

// TestUnended: promise VI1, bytes of which none is the last one of an encoding.
func TestUnended(t *testing.T) {
	for _, c := range []byte{0x80, 0x81, 0xbf, 0xc0, 0xff} {
		for size := range 40 {
			checkErrForm(t, bytes.Repeat([]byte{c}, size))
		}
		checkErrForm(t, bytes.Repeat([]byte{c}, 1<<20))
		checkErrForm(t, append(bytes.Repeat([]byte{c}, 1<<20), 0))
	}
}

// TestLonger: promise VI1, forms that are longer than they need be.
func TestLonger(t *testing.T) {
	for _, s := range []string{"\x80\x00", "\xff\x7f", "\xbf\x00", "\xc0\x7f", "\x80\x80\x00", "\xff\xff\x7f", "\x80\x81\x00"} {
		checkErrForm(t, []byte(s))
	}
	for _, n := range numbers() {
		size := refSize(wide(n))
		for groups := size + 1; groups <= 12; groups++ {
			form := refForm(groups, wide(n))
			checkErrForm(t, form)
			checkErrForm(t, append(form, 0))
		}
	}
}

// TestTooGreat: promise VI1, the encodings of numbers that no int holds, some of them of ten bytes.
func TestTooGreat(t *testing.T) {
	for _, s := range []string{
		"\x80\x80\x80\x80\x80\x80\x80\x80\x80\x01",
		"\xff\xff\xff\xff\xff\xff\xff\xff\xff\x7e",
		"\xff\xff\xff\xff\xff\xff\xff\xff\xff\x01",
		"\x80\x80\x80\x80\x80\x80\x80\x80\x80\x7e",
		"\x80\x80\x80\x80\x80\x80\x80\x80\x80\x3f",
		"\x80\x80\x80\x80\x80\x80\x80\x80\x80\x40",
		"\x80\x80\x80\x80\x80\x80\x80\x80\x80\x80\x01",
		"\xff\xff\xff\xff\xff\xff\xff\xff\xff\xff\x7e",
	} {
		checkErrForm(t, []byte(s))
	}
	for _, n := range wideNumbers() {
		for groups := refSize(n); groups <= 14; groups++ {
			checkErrForm(t, refForm(groups, n))
		}
	}
}

// TestShort: promise VI1, Get of all texts of one and two bytes and many of three, against the
// definition.
func TestShort(t *testing.T) {
	for c := range 256 {
		checkDefinition(t, []byte{byte(c)})
		for d := range 256 {
			checkDefinition(t, []byte{byte(c), byte(d)})
			for _, e := range []byte{0, 1, 0x3f, 0x40, 0x7f, 0x80, 0xff} {
				checkDefinition(t, []byte{byte(c), byte(d), e})
			}
		}
	}
}

// TestLong: promise VI1, Get of bytes of which the tenth is the first that can be the last one of an
// encoding, against the definition: all ninth and tenth bytes.
func TestLong(t *testing.T) {
	for _, c := range []byte{0x80, 0x81, 0xd5, 0xff} {
		b := bytes.Repeat([]byte{c}, 8)
		for ninth := range 256 {
			for tenth := range 256 {
				checkDefinition(t, append(slices.Clone(b), byte(ninth), byte(tenth)))
				checkDefinition(t, append(slices.Clone(b), byte(ninth), byte(tenth), 0))
			}
		}
	}
}

// TestRandom: promise VI1, Get of the same random bytes each time, against the definition, and the
// inverse: what Get accepts is what Put appends.
func TestRandom(t *testing.T) {
	source := rand.New(rand.NewPCG(4, 7))
	common := []byte{0, 1, 0x3f, 0x40, 0x7e, 0x7f, 0x80, 0xff}
	for range 100000 {
		b := make([]byte, source.IntN(14))
		end := source.IntN(14)
		for i := range b {
			b[i] = byte(source.Uint32())
			if source.IntN(3) == 0 {
				b[i] = common[source.IntN(len(common))]
			}
			if i < end {
				b[i] |= 0x80
			}
		}
		checkDefinition(t, b)
		if n, size, err := varint.Get(b); err == nil && !bytes.Equal(varint.Put(nil, n), b[:size]) {
			t.Fatalf("Get(%x) is %d, %d", b, n, size)
		}
	}
}
