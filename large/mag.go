package large

import (
	"cmp"
	"math"
	"math/bits"
	"slices"
)

// The functions of this file compute with magnitudes. Each of them but trim returns new memory, and
// unless it says otherwise its result may have words 0 at the end.

func magOf(n uint64) []uint32 {
	return []uint32{uint32(n), uint32(n >> 32)}
}

func join(high, low uint32) uint64 {
	return uint64(high)<<32 | uint64(low)
}

// at returns word i of m, which is 0 above the last one.
func at(m []uint32, i int) uint32 {
	if i >= len(m) {
		return 0
	}
	return m[i]
}

// trim returns m itself without the words 0 at its end.
func trim(m []uint32) []uint32 {
	n := len(m)
	for n > 0 && m[n-1] == 0 {
		n--
	}
	return m[:n]
}

// cmpMags takes magnitudes without words 0 at the end.
func cmpMags(a, b []uint32) int {
	if n := cmp.Compare(len(a), len(b)); n != 0 {
		return n
	}
	for i, w := range slices.Backward(a) {
		if w != b[i] {
			return cmp.Compare(w, b[i])
		}
	}
	return 0
}

func addMags(a, b []uint32) []uint32 {
	total := make([]uint32, max(len(a), len(b))+1)
	var carry uint32
	for i := range total {
		total[i], carry = bits.Add32(at(a, i), at(b, i), carry)
	}
	return total
}

// subMags takes a b that is not greater than a.
func subMags(a, b []uint32) []uint32 {
	rest := make([]uint32, len(a))
	var borrow uint32
	for i, w := range a {
		rest[i], borrow = bits.Sub32(w, at(b, i), borrow)
	}
	return rest
}

// mulMags returns as many words as a and b have together.
func mulMags(a, b []uint32) []uint32 {
	product := make([]uint32, len(a)+len(b))
	for i, w := range a {
		var carry uint64
		for j, v := range b {
			// The greatest word times itself, plus twice itself, is the greatest uint64.
			carry += uint64(w)*uint64(v) + uint64(product[i+j])
			product[i+j] = uint32(carry)
			carry >>= 32
		}
		product[i+len(b)] = uint32(carry)
	}
	return product
}

// divMags returns the quotient, rounded down, and the remainder, which has no words 0 at the end. It
// takes a b that is not 0, without words 0 at the end.
func divMags(a, b []uint32) ([]uint32, []uint32) {
	if len(a) < len(b) {
		return nil, slices.Clone(a)
	}
	if len(b) == 1 {
		q, r := divWord(a, b[0])
		return q, trim([]uint32{r})
	}
	return divLong(a, b)
}

// divWord returns a quotient without words 0 at the end.
func divWord(a []uint32, b uint32) ([]uint32, uint32) {
	q := make([]uint32, len(a))
	var r uint32
	for i, w := range slices.Backward(a) {
		q[i], r = bits.Div32(r, w, b)
	}
	return trim(q), r
}

// divLong takes a b of at least two words, and an a that has no fewer.
func divLong(a, b []uint32) ([]uint32, []uint32) {
	n := len(b)
	rest := append(slices.Clone(a), 0)
	q := make([]uint32, len(a)-n+1)
	for i := range slices.Backward(q) {
		part := rest[i : i+n+1]
		q[i] = guessDigit(part, b)
		if takeTimes(part, b, q[i]) {
			q[i]--
			copy(part, addMags(part, b))
		}
	}
	return q, trim(rest)
}

// guessDigit returns the quotient of a and b, or one more. It takes an a with one word more than b,
// and a quotient that is less than 2^32. The highest three words of a and two of b decide: what is
// left out of b, whose highest two words are at least 2^32, raises the quotient by less than 1.
func guessDigit(a, b []uint32) uint32 {
	n := len(b)
	q, _ := bits.Div64(uint64(a[n]), join(a[n-1], a[n-2]), join(b[n-1], b[n-2]))
	return uint32(min(q, math.MaxUint32))
}

// takeTimes subtracts digit * b from a, which has one word more than b and is changed. It reports
// whether a was less than that; a is then what is left modulo its range.
func takeTimes(a, b []uint32, digit uint32) bool {
	var borrow uint32
	for i, w := range mulMags(b, []uint32{digit}) {
		a[i], borrow = bits.Sub32(a[i], w, borrow)
	}
	return borrow != 0
}
