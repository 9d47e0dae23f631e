package sum_test

import (
	"bytes"
	"slices"
	"testing"

	"colloquy/api"
	"colloquy/sum"
)

// roomy returns a copy of b with so many bytes of spare capacity that are not 0.
func roomy(b []byte, spare int) []byte {
	return append(slices.Clone(b), bytes.Repeat([]byte{0xa5}, spare)...)[:len(b)]
}

// whole returns b and its spare capacity.
func whole(b []byte) []byte {
	return b[:cap(b)]
}

// checkApart fills each of the slices, spare capacity included, and checks that this changed no other.
func checkApart(t *testing.T, list ...[]byte) {
	t.Helper()
	for i, b := range list {
		for j := range whole(b) {
			whole(b)[j] = byte(i)
		}
	}
	for i, b := range list {
		for _, c := range whole(b) {
			if c != byte(i) {
				t.Fatalf("%d and %d share memory", i, c)
			}
		}
	}
}

// every calls visit with sequences that have no, too little or enough spare capacity for a checksum.
func every(visit func(b []byte)) {
	for _, b := range sequences() {
		for _, spare := range []int{0, 1, 4, 100} {
			visit(roomy(b, spare))
		}
	}
}

// TestOfKeepsArguments: promise P8 and general rules 3 and 4, Of changes neither the pieces nor their
// list, and returns the same again.
func TestOfKeepsArguments(t *testing.T) {
	every(func(b []byte) {
		want := slices.Clone(whole(b))
		half := len(b) / 2
		pieces := [][]byte{b[:half], nil, b[half:]}
		for range 2 {
			checkOf(t, refSum(b), pieces...)
		}
		if !bytes.Equal(whole(b), want) {
			t.Fatalf("Of changed %d bytes", len(b))
		}
		if len(pieces[0]) != half || pieces[1] != nil || len(pieces[2]) != len(b)-half {
			t.Fatalf("Of changed the list of pieces")
		}
	})
}

// TestSealKeepsArgument: promise P8 and general rule 3, Seal does not change its argument, not even its
// spare capacity.
func TestSealKeepsArgument(t *testing.T) {
	every(func(b []byte) {
		want := slices.Clone(whole(b))
		sum.Seal(b)
		if !bytes.Equal(whole(b), want) {
			t.Fatalf("Seal changed its argument of %d bytes", len(b))
		}
	})
}

// TestSealNewResult: promise P8 and general rules 3 and 4, a result of Seal shares no memory with the
// argument or with another result, and what becomes of them has no effect on the next call.
func TestSealNewResult(t *testing.T) {
	every(func(b []byte) {
		argument := slices.Clone(b)
		want := refSeal(b, refSum(b))
		first := sum.Seal(b)
		second := sum.Seal(b)
		checkApart(t, b, first, second, sum.Seal(first))
		if got := sum.Seal(argument); !bytes.Equal(got, want) {
			t.Fatalf("Seal of %d bytes has another result later", len(argument))
		}
	})
}

// TestOpenKeepsArgument: promise P8 and general rules 3 and 4, Open does not change its argument, valid
// or not, and returns the same again.
func TestOpenKeepsArgument(t *testing.T) {
	every(func(b []byte) {
		sealed := roomy(sum.Seal(b), cap(b)-len(b))
		want := slices.Clone(whole(sealed))
		for range 2 {
			checkOpen(t, sealed, b)
			checkOpenError(t, sealed[:min(len(b), 3)], api.ErrForm)
			checkOpenError(t, append(slices.Clone(b), 0, 0, 0, 0), api.ErrSum)
		}
		if !bytes.Equal(whole(sealed), want) {
			t.Fatalf("Open changed its argument of %d bytes", len(sealed))
		}
		sealed[len(sealed)-1]++
		want = slices.Clone(whole(sealed))
		checkOpenError(t, sealed, api.ErrSum)
		if !bytes.Equal(whole(sealed), want) {
			t.Fatalf("Open changed its argument of %d bytes, which is not valid", len(sealed))
		}
	})
}

// TestOpenNewResult: promise P8 and general rules 3 and 4, a result of Open shares no memory with the
// argument or with another result, and what becomes of them has no effect on the next call.
func TestOpenNewResult(t *testing.T) {
	every(func(b []byte) {
		sealed := roomy(sum.Seal(b), cap(b)-len(b))
		again := slices.Clone(sealed)
		first, _ := sum.Open(sealed)
		second, _ := sum.Open(sealed)
		checkApart(t, sealed, first, second)
		checkOpen(t, again, b)
	})
}
