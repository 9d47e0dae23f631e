package varint_test

import (
	"bytes"
	"slices"
	"testing"

	"colloquy/varint"
)

// roomy returns a copy of b with so many bytes of spare capacity that are not 0.
func roomy(b []byte, spare int) []byte {
	return append(slices.Clone(b), bytes.Repeat([]byte{0xa5}, spare)...)[:len(b)]
}

// whole returns b and its spare capacity.
func whole(b []byte) []byte {
	return b[:cap(b)]
}

// checkApart fills each of the slices, spare capacity included, and checks that this changed no other.
func checkApart(t *testing.T, list ...[]byte) {
	t.Helper()
	for i, b := range list {
		for j := range whole(b) {
			whole(b)[j] = byte(i)
		}
	}
	for i, b := range list {
		for _, c := range whole(b) {
			if c != byte(i) {
				t.Fatalf("%d and %d share memory", i, c)
			}
		}
	}
}

// everyPut calls visit with bytes that have no, too little or enough spare capacity for a number.
func everyPut(visit func(b []byte, n int)) {
	for _, b := range before() {
		for _, spare := range []int{0, 1, 5, 10, 100} {
			for _, e := range examples() {
				visit(roomy(b, spare), e.n)
			}
		}
	}
}

// TestPutKeepsArgument: promise P8 and general rule 3, Put does not change its argument, not even its
// spare capacity.
func TestPutKeepsArgument(t *testing.T) {
	everyPut(func(b []byte, n int) {
		want := slices.Clone(whole(b))
		varint.Put(b, n)
		if !bytes.Equal(whole(b), want) {
			t.Fatalf("Put(%x, %d) changed the argument to %x", want, n, whole(b))
		}
	})
}

// TestPutNewResult: promise P8 and general rules 3 and 4, a result of Put shares no memory with the
// argument or with another result, and what becomes of them has no effect on the next call.
func TestPutNewResult(t *testing.T) {
	everyPut(func(b []byte, n int) {
		argument := slices.Clone(b)
		want := append(slices.Clone(b), refEncoding(wide(n))...)
		first := varint.Put(b, n)
		second := varint.Put(b, n)
		again := varint.Put(first, n)
		checkApart(t, b, first, second, again)
		if got := varint.Put(argument, n); !bytes.Equal(got, want) {
			t.Fatalf("Put(%x, %d) is later %x", argument, n, got)
		}
	})
}

// TestPutTwice: promise P8 and general rule 3, two numbers that are put after the same bytes do not
// overwrite each other.
func TestPutTwice(t *testing.T) {
	b := roomy([]byte("text"), 20)
	first := varint.Put(b, 64)
	second := varint.Put(b, -65)
	third := varint.Put(first, 1)
	fourth := varint.Put(first, 2)
	if string(first) != "text\xc0\x00" || string(second) != "text\xbf\x7f" {
		t.Errorf("after %x: %x, %x", b, first, second)
	}
	if string(third) != "text\xc0\x00\x01" || string(fourth) != "text\xc0\x00\x02" {
		t.Errorf("after %x: %x, %x", first, third, fourth)
	}
}

// TestGetKeepsArgument: promise P8 and general rules 3 and 4, Get does not change its argument, valid
// or not, and returns the same again, also from a slice that held another number before.
func TestGetKeepsArgument(t *testing.T) {
	var inputs [][]byte
	for _, e := range examples() {
		b := []byte(e.encoding)
		inputs = append(inputs, b, b[:len(b)-1], append(slices.Clone(b), 0x80, 1), refForm(12, wide(e.n)))
	}
	for _, n := range wideNumbers() {
		inputs = append(inputs, refEncoding(n))
	}
	reused := make([]byte, 0, 20)
	for _, input := range inputs {
		for _, spare := range []int{0, 20} {
			b := roomy(input, spare)
			want := slices.Clone(whole(b))
			checkDefinition(t, b)
			checkDefinition(t, b)
			if !bytes.Equal(whole(b), want) {
				t.Fatalf("Get(%x) changed the argument to %x", want, whole(b))
			}
		}
		reused = append(reused[:0], input...)
		checkDefinition(t, reused)
	}
}
