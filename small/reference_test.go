package small_test

import (
	"errors"
	"math"
	"math/big"
	"math/rand/v2"
	"slices"
	"testing"

	"colloquy/api"
)

// The functions of this file follow the definitions of chapter 2 with integers of any size.

const (
	least = -1 << 61
	most  = 1<<61 - 1
)

// errno returns the number of an error, or 0 if there is none.
func errno(t *testing.T, err error) api.Errno {
	t.Helper()
	var n api.Errno
	if err != nil && !errors.As(err, &n) {
		t.Fatalf("error %v has no number", err)
	}
	return n
}

func wide(n int) *big.Int {
	return big.NewInt(int64(n))
}

func refFits(n *big.Int) bool {
	return n.Cmp(wide(least)) >= 0 && n.Cmp(wide(most)) <= 0
}

// refChecked returns what an operation on a and b with the result n returns.
func refChecked(a, b int, n *big.Int) (int, bool) {
	if !refFits(wide(a)) || !refFits(wide(b)) || !refFits(n) {
		return 0, false
	}
	return int(n.Int64()), true
}

// refDiv divides by a positive number, where the division of package big rounds down.
func refDiv(a, b int) (int, int, api.Errno) {
	if !refFits(wide(a)) || !refFits(wide(b)) {
		return 0, 0, api.ErrRange
	}
	if b == 0 {
		return 0, 0, api.ErrZero
	}
	over, under := wide(a), wide(b)
	if b < 0 {
		over.Neg(over)
		under.Neg(under)
	}
	q := new(big.Int).Div(over, under)
	if !refFits(q) {
		return 0, 0, api.ErrRange
	}
	r := new(big.Int).Mul(q, wide(b))
	r.Sub(wide(a), r)
	return int(q.Int64()), int(r.Int64()), 0
}

// refWord returns 4 * n + 1 modulo 2^64.
func refWord(n int) uint64 {
	w := new(big.Int).Mul(wide(n), big.NewInt(4))
	w.Add(w, big.NewInt(1))
	return w.Mod(w, new(big.Int).Lsh(big.NewInt(1), 64)).Uint64()
}

// numbers returns integers in and out of range: all powers of two and the negatives of these with
// their neighbours (Least, Most and the ends of int among them), small numbers, and the numbers
// around the square roots of 2^61 and 2^63.
func numbers() []int {
	list := []int{math.MinInt, math.MaxInt}
	for shift := range 64 {
		p := 1 << shift
		list = append(list, p-1, p, p+1, -p-1, -p, -p+1)
	}
	for n := -12; n <= 12; n++ {
		list = append(list, n)
	}
	for _, root := range []int{1518500249, 3037000499} {
		list = append(list, root, root+1, -root, -root-1)
	}
	slices.Sort(list)
	return slices.Compact(list)
}

// everyPair calls visit with all pairs of numbers, and with pairs whose sum, difference or product
// is close to an end of the range.
func everyPair(visit func(a, b int)) {
	for _, a := range numbers() {
		for _, b := range numbers() {
			visit(a, b)
		}
		for _, end := range []int{least, most} {
			for step := -2; step <= 2; step++ {
				visit(a, end-a+step)
				visit(a, a-end+step)
				if a != 0 {
					visit(a, end/a+step)
				}
			}
		}
	}
	everyRandomPair(visit)
}

// everyRandomPair calls visit with the same pairs each time, of numbers of all sizes.
func everyRandomPair(visit func(a, b int)) {
	source := rand.New(rand.NewPCG(2, 62))
	number := func() int { return int(source.Uint64()) >> source.IntN(64) }
	for range 100000 {
		visit(number(), number())
	}
}
