package pack_test

import (
	"bytes"
	"math/rand/v2"
	"slices"
	"testing"

	"colloquy/pack"
)

// roomy returns a copy of l with so many elements of spare capacity that are not 0.
func roomy[E byte | int](l []E, spare int) []E {
	return append(slices.Clone(l), slices.Repeat([]E{0xa5}, spare)...)[:len(l)]
}

// whole returns l and its spare capacity.
func whole[E byte | int](l []E) []E {
	return l[:cap(l)]
}

// spoil changes each element of l and of its spare capacity.
func spoil[E byte | int](l []E) {
	for i := range whole(l) {
		whole(l)[i] ^= 0x55
	}
}

// checkApart fills each of the slices, spare capacity included, and checks that this changed no other.
func checkApart[E byte | int](t *testing.T, list ...[]E) {
	t.Helper()
	for i, l := range list {
		for j := range whole(l) {
			whole(l)[j] = E(i)
		}
	}
	for i, l := range list {
		for _, e := range whole(l) {
			if e != E(i) {
				t.Fatalf("%d and %d share memory", i, e)
			}
		}
	}
}

// TestWriteKeepsArguments: promise P8 and general rule 3, Int and Ints change no list that they are given,
// and do not keep it.
func TestWriteKeepsArguments(t *testing.T) {
	for _, spare := range []int{0, 1, 100} {
		list := roomy(numbers(), spare)
		want := slices.Clone(whole(list))
		w := &pack.Writer{}
		w.Int(list...)
		w.Ints(list)
		all := string(w.All())
		if !slices.Equal(whole(list), want) {
			t.Fatalf("the list is changed to %d", whole(list))
		}
		spoil(list)
		checkAll(t, w, all)
	}
}

// TestAllNewResult: promise P8 and general rules 3 and 4, no two results of All share memory, and neither
// what becomes of them nor what is written later has an effect on the other.
func TestAllNewResult(t *testing.T) {
	source := rand.New(rand.NewPCG(6, 8))
	for range 500 {
		w := &pack.Writer{}
		fields := randoms(source)
		for i, f := range fields {
			before := w.All()
			kept := slices.Clone(whole(before))
			f.write(w)
			if !bytes.Equal(whole(before), kept) {
				t.Fatalf("what is written later changes %x to %x", kept, whole(before))
			}
			checkApart(t, before, w.All(), w.All())
			checkAll(t, w, string(refAll(fields[:i+1])))
		}
	}
}

// TestWriters: promise P8 and general rule 4, what is written to one Writer has no effect on another, nor
// on a copy, whichever is written to first.
func TestWriters(t *testing.T) {
	source := rand.New(rand.NewPCG(6, 9))
	writers := make([]pack.Writer, 4)
	want := make([][]byte, len(writers))
	for range 20000 {
		i, j := source.IntN(len(writers)), source.IntN(len(writers))
		switch source.IntN(20) {
		case 0:
			writers[i], want[i] = writers[j], slices.Clone(want[j])
		case 1:
			writers[i], want[i] = pack.Writer{}, nil
		default:
			f := random(source)
			f.write(&writers[i])
			want[i] = append(want[i], refBytes(f)...)
		}
		for k := range writers {
			checkAll(t, &writers[k], string(want[k]))
		}
	}
}

// TestReadKeepsArgument: promise P8 and general rule 3, Read and the methods of its Reader do not change
// the bytes, nor those behind them.
func TestReadKeepsArgument(t *testing.T) {
	source := rand.New(rand.NewPCG(6, 10))
	for range 2000 {
		fields := randoms(source)
		b := roomy(refAll(fields), source.IntN(20))
		want := slices.Clone(whole(b))
		checkReads(t, b, randomCalls(source, fields)...)
		if !bytes.Equal(whole(b), want) {
			t.Fatalf("%x is changed to %x", want, whole(b))
		}
	}
}

// TestReadNewResult: promise P8 and general rules 3 and 4, a Reader does not keep the bytes that it is
// given, and no list that it returns shares memory with another one.
func TestReadNewResult(t *testing.T) {
	source := rand.New(rand.NewPCG(6, 11))
	for range 2000 {
		fields := randoms(source)
		b := roomy(refAll(fields), source.IntN(20))
		r := pack.Read(b)
		other := pack.Read(b)
		spoil(b)
		var lists [][]int
		for _, f := range fields {
			for _, reader := range []*pack.Reader{r, other} {
				got := exact(f).read(reader)
				if !got.equal(f) {
					t.Fatalf("%v is read as %v once the bytes changed", f, got)
				}
				lists = append(lists, got.list)
			}
		}
		checkDone(t, r, true)
		checkDone(t, other, true)
		checkApart(t, lists...)
	}
}

// TestReaders: promise P8 and general rule 4, reading from one Reader has no effect on another one for
// the same bytes, nor on a copy.
func TestReaders(t *testing.T) {
	b := []byte("\x01\x02ab\x02\x03\x04")
	first, second := pack.Read(b), pack.Read(b)
	if n := first.Int(0, 1); n != 1 {
		t.Errorf("Int is %d", n)
	}
	third := *first
	if n := first.Int(0, 1); n != 0 {
		t.Errorf("Int is %d", n)
	}
	checkFailed(t, first)
	if s := third.Text(2); s != "ab" {
		t.Errorf("Text is %q", s)
	}
	checkReads(t, b, wide('I'), wide('T'), wide('L'))
	if n := second.Int(0, 1); n != 1 {
		t.Errorf("Int is %d", n)
	}
	if s := second.Text(2); s != "ab" {
		t.Errorf("Text is %q", s)
	}
	for _, r := range []*pack.Reader{second, &third} {
		if l := r.Ints(2, 3, 4); !slices.Equal(l, []int{3, 4}) {
			t.Errorf("Ints is %d", l)
		}
		checkDone(t, r, true)
	}
}
