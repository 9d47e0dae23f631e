package varint_test

import (
	"errors"
	"math"
	"math/big"
	"math/rand/v2"
	"slices"
	"testing"

	"colloquy/api"
)

// The functions of this file follow the definitions of chapter 4 with integers of any size.

// errno returns the number of an error, or 0 if there is none.
func errno(t *testing.T, err error) api.Errno {
	t.Helper()
	var n api.Errno
	if err != nil && !errors.As(err, &n) {
		t.Fatalf("error %v has no number", err)
	}
	return n
}

func wide(n int) *big.Int {
	return big.NewInt(int64(n))
}

func power(exponent int) *big.Int {
	return new(big.Int).Lsh(big.NewInt(1), uint(exponent))
}

// plus returns n + m.
func plus(n *big.Int, m int) *big.Int {
	return new(big.Int).Add(n, wide(m))
}

// refHolds reports whether groups of seven bits, so many of them, hold n in two's complement.
func refHolds(groups int, n *big.Int) bool {
	end := power(7*groups - 1)
	return n.Cmp(new(big.Int).Neg(end)) >= 0 && n.Cmp(end) < 0
}

// refForm returns the signed LEB128 of n in so many groups, which hold n.
func refForm(groups int, n *big.Int) []byte {
	rest := new(big.Int).Mod(n, power(7*groups))
	form := make([]byte, groups)
	for i := range form {
		digit := new(big.Int)
		rest.DivMod(rest, big.NewInt(128), digit)
		form[i] = byte(digit.Int64()) + 128
	}
	form[groups-1] -= 128
	return form
}

func refSize(n *big.Int) int {
	groups := 1
	for !refHolds(groups, n) {
		groups++
	}
	return groups
}

func refEncoding(n *big.Int) []byte {
	return refForm(refSize(n), n)
}

// refGet reads digits of base 128 up to the first byte below 128, as a number of any size.
func refGet(b []byte) (int, int, api.Errno) {
	n := new(big.Int)
	for i, c := range b {
		digit := new(big.Int).Mul(wide(int(c)%128), power(7*i))
		n.Add(n, digit)
		if c >= 128 {
			continue
		}
		if c >= 64 {
			n.Sub(n, power(7*(i+1)))
		}
		if !n.IsInt64() || refSize(n) != i+1 {
			return 0, 0, api.ErrForm
		}
		return int(n.Int64()), i + 1, 0
	}
	return 0, 0, api.ErrForm
}

// numbers returns all powers of two of type int and the negatives of these with their neighbours
// (the numbers at which an encoding gets one byte longer, and the ends of int, among them), small
// numbers, and the same random ones of all sizes each time.
func numbers() []int {
	list := []int{math.MinInt, math.MinInt + 1, math.MaxInt - 1, math.MaxInt}
	for shift := range 63 {
		p := 1 << shift
		list = append(list, p-1, p, p+1, -p-1, -p, -p+1)
	}
	for n := -300; n <= 300; n++ {
		list = append(list, n)
	}
	source := rand.New(rand.NewPCG(4, 128))
	for range 10000 {
		list = append(list, int(source.Uint64())>>source.IntN(64))
	}
	slices.Sort(list)
	return slices.Compact(list)
}

// wideNumbers returns integers that are not of type int.
func wideNumbers() []*big.Int {
	var list []*big.Int
	for exponent := 63; exponent <= 90; exponent++ {
		p := power(exponent)
		for step := -2; step <= 2; step++ {
			list = append(list, plus(p, step), new(big.Int).Neg(plus(p, step)))
		}
	}
	return slices.DeleteFunc(list, (*big.Int).IsInt64)
}
