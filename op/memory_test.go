package op_test

import (
	"bytes"
	"math/rand/v2"
	"slices"
	"testing"

	"colloquy/op"
)

// roomy returns a copy of l with so many elements of spare capacity that are not 0.
func roomy[E any](l []E, spare int, filler E) []E {
	return append(slices.Clone(l), slices.Repeat([]E{filler}, spare)...)[:len(l)]
}

// whole returns l and its spare capacity.
func whole[E any](l []E) []E {
	return l[:cap(l)]
}

// checkApart fills each of the slices with the element for its number, spare capacity included, and checks
// that this changed no other.
func checkApart[E comparable](t *testing.T, element func(int) E, list ...[]E) {
	t.Helper()
	for i, l := range list {
		for j := range whole(l) {
			whole(l)[j] = element(i)
		}
	}
	for i, l := range list {
		for _, e := range whole(l) {
			if e != element(i) {
				t.Fatalf("%d shares memory with another slice: %v", i, e)
			}
		}
	}
}

func byteFor(i int) byte {
	return byte(0xa0 + i)
}

func numberFor(i int) int {
	return -1 - i
}

func opFor(i int) op.Op {
	return op.Op{Code: byteFor(i), A: numberFor(i), B: i}
}

// lists returns lists of instructions of all lengths, valid ones, lists with an invalid instruction, and
// lists whose encoding is too long.
func lists() [][]op.Op {
	source := rand.New(rand.NewPCG(7, 8))
	all := [][]op.Op{nil, {}, filled(nil, 512), filled(nil, 513), {{Code: op.Nil}, {Code: 21}}, {{Code: op.Lit, A: 256}}}
	for range 300 {
		l := randoms(source, source.IntN(513))
		all = append(all, l, append(slices.Clone(l), op.Op{Code: op.Pop, A: 1}))
	}
	return all
}

// codes returns bytes that are an encoding, that are not, and that are too long.
func codes() [][]byte {
	all := [][]byte{nil, {}, bytes.Repeat([]byte{op.Dup}, 512), bytes.Repeat([]byte{op.Dup}, 513), {op.Nil, 21}, {op.Else, 0}}
	for _, l := range lists() {
		b, _ := refEncode(l)
		all = append(all, b, append(slices.Clone(b), op.Jump))
	}
	return all
}

// TestEncodeKeepsArgument: promise P8 and general rules 3 and 4, Encode does not change its argument, valid
// or not, nor what stands behind it, and returns the same again.
func TestEncodeKeepsArgument(t *testing.T) {
	for _, list := range lists() {
		for _, spare := range []int{0, 1, 100} {
			l := roomy(list, spare, op.Op{Code: 200, A: -5, B: 99})
			want := slices.Clone(whole(l))
			checkEncodeDefinition(t, l)
			checkEncodeDefinition(t, l)
			if !slices.Equal(whole(l), want) {
				t.Fatalf("Encode changed %v to %v", want, whole(l))
			}
		}
	}
}

// TestEncodeNewResult: promise P8 and general rules 3 and 4, no two results of Encode share memory, spare
// capacity included, and what becomes of them or of the argument has no effect on the next call.
func TestEncodeNewResult(t *testing.T) {
	for _, list := range lists() {
		l := slices.Clone(list)
		first, _ := op.Encode(l)
		second, _ := op.Encode(l)
		kept := slices.Clone(first)
		for i := range l {
			l[i] = opFor(i % 50)
		}
		if !bytes.Equal(first, kept) || !bytes.Equal(second, kept) {
			t.Fatalf("Encode keeps its argument: %x, %x, want %x", first, second, kept)
		}
		checkApart(t, byteFor, first, second)
		checkEncodeDefinition(t, list)
	}
}

// TestDecodeKeepsArgument: promise P8 and general rules 3 and 4, Decode does not change its argument, valid
// or not, nor what stands behind it, and returns the same again.
func TestDecodeKeepsArgument(t *testing.T) {
	for _, code := range codes() {
		for _, spare := range []int{0, 1, 100} {
			b := roomy(code, spare, 0xa5)
			want := slices.Clone(whole(b))
			checkDecodeDefinition(t, b)
			checkDecodeDefinition(t, b)
			if !bytes.Equal(whole(b), want) {
				t.Fatalf("Decode changed %x to %x", want, whole(b))
			}
		}
	}
}

// TestDecodeNewResult: promise P8 and general rules 3 and 4, no two results of Decode share memory, spare
// capacity included, and what becomes of them or of the argument has no effect on the next call.
func TestDecodeNewResult(t *testing.T) {
	for _, code := range codes() {
		b := slices.Clone(code)
		first, firstOffsets, _ := op.Decode(b)
		second, secondOffsets, _ := op.Decode(b)
		kept, keptOffsets := slices.Clone(first), slices.Clone(firstOffsets)
		for i := range whole(b) {
			whole(b)[i] ^= 0x55
		}
		if !slices.Equal(first, kept) || !slices.Equal(second, kept) {
			t.Fatalf("Decode keeps its argument: %v, %v, want %v", first, second, kept)
		}
		if !slices.Equal(firstOffsets, keptOffsets) || !slices.Equal(secondOffsets, keptOffsets) {
			t.Fatalf("Decode keeps its argument: %d, %d, want %d", firstOffsets, secondOffsets, keptOffsets)
		}
		checkApart(t, opFor, first, second)
		checkApart(t, numberFor, firstOffsets, secondOffsets)
		checkDecodeDefinition(t, code)
	}
}

// TestReused: promise P8 and general rule 4, a slice that held another argument before is taken as it is
// now.
func TestReused(t *testing.T) {
	var l []op.Op
	var b []byte
	for _, e := range examples() {
		l = append(l[:0], e.list...)
		checkEncode(t, l, e.encoding)
		b = append(b[:0], e.encoding...)
		checkDecode(t, b, e.list, e.offsets)
	}
}
