package pack_test

import (
	"bytes"
	"math/rand/v2"
	"slices"
	"strings"
	"testing"

	"colloquy/pack"
)

func checkAll(t *testing.T, w *pack.Writer, want string) {
	t.Helper()
	if b := w.All(); string(b) != want {
		t.Fatalf("All is %x, want %x", b, want)
	}
}

// TestWriteExamples: promise PK1 and the example of the chapter, one field after the other.
func TestWriteExamples(t *testing.T) {
	w := &pack.Writer{}
	w.Text("ab")
	checkAll(t, w, "\x02ab")
	w.Int(7)
	checkAll(t, w, "\x02ab\x07")
	w.Int(-1, 64, 0)
	checkAll(t, w, "\x02ab\x07\x7f\xc0\x00\x00")
	w.Ints([]int{64, -65})
	checkAll(t, w, "\x02ab\x07\x7f\xc0\x00\x00\x02\xc0\x00\xbf\x7f")
	w.Text("\xff\x00")
	checkAll(t, w, "\x02ab\x07\x7f\xc0\x00\x00\x02\xc0\x00\xbf\x7f\x02\xff\x00")
}

// TestWriteNothing: promise PK1, no numbers, which are not a field, and an empty list and an empty text,
// which are the field 0.
func TestWriteNothing(t *testing.T) {
	w := &pack.Writer{}
	checkAll(t, w, "")
	w.Int()
	w.Int(nil...)
	w.Int([]int{}...)
	checkAll(t, w, "")
	w.Ints(nil)
	checkAll(t, w, "\x00")
	w.Ints([]int{})
	checkAll(t, w, "\x00\x00")
	w.Text("")
	checkAll(t, w, "\x00\x00\x00")
	w.Int(5)
	w.Int()
	checkAll(t, w, "\x00\x00\x00\x05")
}

// TestZeroWriter: the sentence ahead of promise PK1, the zero Writer is empty, and can be written to.
func TestZeroWriter(t *testing.T) {
	var w pack.Writer
	checkAll(t, &w, "")
	checkAll(t, new(pack.Writer), "")
	w.Int(3)
	checkAll(t, &w, "\x03")
	w = pack.Writer{}
	checkAll(t, &w, "")
}

// TestNilWriter: the sentence ahead of promise PK1, the methods of a nil Writer have no effect.
func TestNilWriter(t *testing.T) {
	var w *pack.Writer
	for range 2 {
		checkAll(t, w, "")
		w.Int()
		w.Int(1, 2, 3)
		w.Ints(nil)
		w.Ints([]int{1, 2})
		w.Text("")
		w.Text("ab")
		checkAll(t, w, "")
	}
	if w != nil {
		t.Error("the Writer is not nil any more")
	}
}

// TestWriteNumbers: promise PK1, each number on its own, all in one call, and as a list.
func TestWriteNumbers(t *testing.T) {
	list := numbers()
	var all []byte
	for _, n := range list {
		w := &pack.Writer{}
		w.Int(n)
		one := refBytes(field{kind: 'I', n: n})
		checkAll(t, w, string(one))
		all = append(all, one...)
	}
	w := &pack.Writer{}
	w.Int(list...)
	checkAll(t, w, string(all))
	w = &pack.Writer{}
	w.Ints(list)
	checkAll(t, w, string(refBytes(field{kind: 'I', n: len(list)}))+string(all))
}

// TestWriteSizes: promise PK1, lists and texts whose number of elements or bytes needs one to three bytes.
func TestWriteSizes(t *testing.T) {
	for _, size := range []struct {
		n        int
		encoding string
	}{
		{1, "\x01"},
		{63, "\x3f"},
		{64, "\xc0\x00"},
		{128, "\x80\x01"},
		{1024, "\x80\x08"},
		{8191, "\xff\x3f"},
		{8192, "\x80\xc0\x00"},
		{100000, "\xa0\x8d\x06"},
	} {
		text := strings.Repeat("\xfe", size.n)
		w := &pack.Writer{}
		w.Text(text)
		checkAll(t, w, size.encoding+text)
		w.Ints(slices.Repeat([]int{-2}, size.n))
		checkAll(t, w, size.encoding+text+size.encoding+strings.Repeat("\x7e", size.n))
	}
}

// TestWriteRandom: promise PK1, the same random fields each time, against the definition.
func TestWriteRandom(t *testing.T) {
	source := rand.New(rand.NewPCG(6, 1))
	for range 5000 {
		w := &pack.Writer{}
		fields := randoms(source)
		for i, f := range fields {
			f.write(w)
			if source.IntN(4) == 0 {
				checkAll(t, w, string(refAll(fields[:i+1])))
			}
		}
		checkAll(t, w, string(refAll(fields)))
	}
}

// TestWriteLong: promise PK1, many fields in one Writer.
func TestWriteLong(t *testing.T) {
	w := &pack.Writer{}
	for n := range 200000 {
		w.Int(n % 64)
		w.Text("x")
	}
	b := w.All()
	if len(b) != 600000 {
		t.Fatalf("All has %d bytes", len(b))
	}
	for n := range 200000 {
		if !bytes.Equal(b[3*n:3*n+3], []byte{byte(n % 64), 1, 'x'}) {
			t.Fatalf("field %d is %x", n, b[3*n:3*n+3])
		}
	}
}

// TestInverse: promise PK3, random fields are read back, field by field, with the narrowest and the
// widest bounds.
func TestInverse(t *testing.T) {
	source := rand.New(rand.NewPCG(6, 3))
	for range 5000 {
		w := &pack.Writer{}
		fields := randoms(source)
		for _, f := range fields {
			f.write(w)
		}
		narrow, free := pack.Read(w.All()), pack.Read(w.All())
		for i, f := range fields {
			if got := exact(f).read(narrow); !got.equal(f) {
				t.Fatalf("field %d of %v is %v in its bounds", i, fields, got)
			}
			if got := wide(f.kind).read(free); !got.equal(f) {
				t.Fatalf("field %d of %v is %v", i, fields, got)
			}
			checkDone(t, narrow, i == len(fields)-1)
		}
		checkDone(t, narrow, true)
		checkDone(t, free, true)
	}
}

// TestInverseNumbers: promise PK3, numbers of all sizes, and long lists and texts.
func TestInverseNumbers(t *testing.T) {
	list := numbers()
	text := strings.Repeat("some text \x00\xff", 10000)
	w := &pack.Writer{}
	w.Int(list...)
	w.Ints(list)
	w.Text(text)
	w.Ints(slices.Repeat(list, 1000))
	r := pack.Read(w.All())
	for _, n := range list {
		if got := r.Int(n, n); got != n {
			t.Fatalf("%d is read as %d", n, got)
		}
	}
	if got := r.Ints(len(list), least, most); !slices.Equal(got, list) {
		t.Errorf("the list is read as %d", got)
	}
	if got := r.Text(len(text)); got != text {
		t.Errorf("the text is read as %d bytes", len(got))
	}
	if got := r.Ints(1000*len(list), least, most); !slices.Equal(got, slices.Repeat(list, 1000)) {
		t.Errorf("the long list is read as %d elements", len(got))
	}
	checkDone(t, r, true)
}
