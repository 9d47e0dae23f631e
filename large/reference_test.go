package large_test

import (
	"errors"
	"math"
	"math/big"
	"math/rand/v2"
	"slices"
	"testing"

	"colloquy/api"
	"colloquy/large"
)

// The functions of this file follow the definitions of chapter 3 with package math/big.

// errno returns the number of an error, or 0 if there is none.
func errno(t *testing.T, err error) api.Errno {
	t.Helper()
	var n api.Errno
	if err != nil && !errors.As(err, &n) {
		t.Fatalf("error %v has no number", err)
	}
	return n
}

func num(words ...uint32) large.Num {
	return large.Num{Mag: words}
}

func minus(words ...uint32) large.Num {
	return large.Num{Neg: true, Mag: words}
}

func clone(a large.Num) large.Num {
	return large.Num{Neg: a.Neg, Mag: slices.Clone(a.Mag)}
}

// same reports whether a and b have the same sign and words, valid or not.
func same(a, b large.Num) bool {
	return a.Neg == b.Neg && slices.Equal(a.Mag, b.Mag)
}

// ofBig returns n as a Num, with as many words as it has.
func ofBig(n *big.Int) large.Num {
	var words []uint32
	for m := new(big.Int).Abs(n); m.Sign() > 0; m.Rsh(m, 32) {
		low := new(big.Int).And(m, big.NewInt(math.MaxUint32))
		words = append(words, uint32(low.Uint64()))
	}
	return large.Num{Neg: n.Sign() < 0, Mag: words}
}

func toBig(a large.Num) *big.Int {
	n := new(big.Int)
	for _, w := range slices.Backward(a.Mag) {
		n.Lsh(n, 32)
		n.Add(n, big.NewInt(int64(w)))
	}
	if a.Neg {
		n.Neg(n)
	}
	return n
}

func power(base, exponent int64) *big.Int {
	return new(big.Int).Exp(big.NewInt(base), big.NewInt(exponent), nil)
}

func plus(n *big.Int, step int64) *big.Int {
	return new(big.Int).Add(n, big.NewInt(step))
}

// hasWords reports whether n has at most 64 words.
func hasWords(n *big.Int) bool {
	return n.BitLen() <= 64*32
}

// refDiv divides by a positive number, where the division of package big rounds down.
func refDiv(a, b *big.Int) (*big.Int, *big.Int) {
	over, under := new(big.Int).Set(a), new(big.Int).Set(b)
	if b.Sign() < 0 {
		over.Neg(over)
		under.Neg(under)
	}
	q := new(big.Int).Div(over, under)
	r := new(big.Int).Mul(q, b)
	return q, r.Sub(a, r)
}

// checkResult compares what an operation returned to the result n by the definition.
func checkResult(t *testing.T, name string, a, b, got large.Num, err error, n *big.Int) {
	t.Helper()
	want, code := ofBig(n), api.Errno(0)
	if !hasWords(n) {
		want, code = large.Num{}, api.ErrLong
	}
	if !same(got, want) || errno(t, err) != code {
		t.Fatalf("%s(%v, %v) is %v, %v, want %v, error %d", name, a, b, got, err, want, code)
	}
}

// numbers returns valid Nums: 0, small ones, powers of two and of ten with their neighbours (the ends
// of int and the greatest numbers of 1, 2, 63 and 64 words among them), words that are all equal, and
// words with which a digit of a quotient is hard to guess; all with their negatives.
func numbers() []large.Num {
	list := []*big.Int{big.NewInt(0)}
	for n := int64(1); n <= 10; n++ {
		list = append(list, big.NewInt(n))
	}
	for _, bit := range []int64{31, 32, 33, 62, 63, 64, 65, 95, 96, 128, 1024, 2016, 2047} {
		n := power(2, bit)
		list = append(list, plus(n, -1), n, plus(n, 1))
	}
	list = append(list, plus(power(2, 2048), -1), plus(power(2, 2048), -2))
	for _, digits := range []int64{9, 18, 27, 616} {
		n := power(10, digits)
		list = append(list, plus(n, -1), n, plus(n, 1))
	}
	for _, words := range [][]uint32{
		{math.MaxUint32, 0, 1},
		{math.MaxUint32, math.MaxUint32, 0, 1},
		{math.MaxUint32, 0, 1 << 31},
		{0, math.MaxUint32, 1 << 31},
		{5, 0, 1 << 31},
		{0, 4, 0, 1 << 31},
		{0, 0, 0, 1 << 31, 1<<31 - 1},
		{0, 0, 1<<31 + 1, 1},
		{1, 2, 3, 4, 5, 6, 7},
		slices.Repeat([]uint32{1 << 31}, 33),
		slices.Repeat([]uint32{0, math.MaxUint32}, 32),
	} {
		list = append(list, toBig(num(words...)))
	}
	var nums []large.Num
	for _, n := range list {
		nums = append(nums, ofBig(n))
		if n.Sign() > 0 {
			nums = append(nums, ofBig(new(big.Int).Neg(n)))
		}
	}
	return nums
}

// invalidNums returns Nums that are not valid, each for one reason.
func invalidNums() []large.Num {
	return []large.Num{
		{Neg: true},
		{Neg: true, Mag: []uint32{}},
		num(0),
		minus(0),
		num(1, 0),
		minus(1, 0),
		num(0, 0, 0),
		num(append(make([]uint32, 62), 1, 0)...),
		num(append(make([]uint32, 64), 1)...),
		minus(append(make([]uint32, 64), 1)...),
		num(slices.Repeat([]uint32{math.MaxUint32}, 65)...),
		num(append(make([]uint32, 63), 1, 0)...),
		num(slices.Repeat([]uint32{1}, 1<<20)...),
	}
}

// randomNum returns a Num of up to 64 words, a few of which are more frequent than all others.
func randomNum(source *rand.Rand) large.Num {
	words := make([]uint32, source.IntN(65))
	for i := range words {
		frequent := []uint32{0, 1, 1 << 31, 1<<31 - 1, math.MaxUint32, math.MaxUint32 - 1}
		words[i] = source.Uint32() >> source.IntN(32)
		if k := source.IntN(12); k < len(frequent) {
			words[i] = frequent[k]
		}
	}
	n := toBig(num(words...))
	if source.IntN(2) == 1 {
		n.Neg(n)
	}
	return ofBig(n)
}

// everyPair calls visit with all pairs of numbers, and with the same random pairs each time.
func everyPair(visit func(a, b large.Num)) {
	list := numbers()
	for _, a := range list {
		for _, b := range list {
			visit(a, b)
		}
	}
	source := rand.New(rand.NewPCG(3, 32))
	for range 10000 {
		visit(randomNum(source), randomNum(source))
	}
}

// everyTriple calls visit with all triples of some of the numbers, and with the same random triples
// each time.
func everyTriple(visit func(a, b, c large.Num)) {
	var list []large.Num
	for i, n := range numbers() {
		if i < 4 || i%6 == 0 {
			list = append(list, n)
		}
	}
	for _, a := range list {
		for _, b := range list {
			for _, c := range list {
				visit(a, b, c)
			}
		}
	}
	source := rand.New(rand.NewPCG(3, 64))
	for range 3000 {
		visit(randomNum(source), randomNum(source), randomNum(source))
	}
}
