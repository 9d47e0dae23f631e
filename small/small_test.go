package small_test

import (
	"math"
	"math/big"
	"testing"

	"colloquy/api"
	"colloquy/small"
)

// TestFits: promise SM1, Fits.
func TestFits(t *testing.T) {
	for _, n := range []int{0, 1, -1, 1 << 32, -1 << 32, 1 << 60, least, least + 1, most - 1, most} {
		if !small.Fits(n) {
			t.Errorf("%d is not in range", n)
		}
	}
	for _, n := range []int{least - 1, most + 1, 1<<62 - 1, 1 << 62, -1 << 62, -1<<62 - 1, math.MinInt, math.MinInt + 1, math.MaxInt - 1, math.MaxInt} {
		if small.Fits(n) {
			t.Errorf("%d is in range", n)
		}
	}
	for _, n := range numbers() {
		if got := small.Fits(n); got != refFits(wide(n)) {
			t.Errorf("Fits(%d) is %v", n, got)
		}
	}
}

type operation struct {
	name string
	do   func(a, b int) (int, bool)
	ref  func(z, a, b *big.Int) *big.Int
}

func operations() []operation {
	return []operation{
		{"Add", small.Add, (*big.Int).Add},
		{"Sub", small.Sub, (*big.Int).Sub},
		{"Mul", small.Mul, (*big.Int).Mul},
	}
}

// TestOperations: promise SM1, Add, Sub and Mul, against the definition.
func TestOperations(t *testing.T) {
	for _, o := range operations() {
		everyPair(func(a, b int) {
			got, ok := o.do(a, b)
			want, fits := refChecked(a, b, o.ref(new(big.Int), wide(a), wide(b)))
			if got != want || ok != fits {
				t.Fatalf("%s(%d, %d) is %d, %v, want %d, %v", o.name, a, b, got, ok, want, fits)
			}
		})
	}
}

type example struct {
	a, b, want int
	ok         bool
}

func checkExamples(t *testing.T, do func(a, b int) (int, bool), examples []example) {
	t.Helper()
	for _, e := range examples {
		if got, ok := do(e.a, e.b); got != e.want || ok != e.ok {
			t.Errorf("of %d and %d: %d, %v, want %d, %v", e.a, e.b, got, ok, e.want, e.ok)
		}
	}
}

// TestAdd: promise SM1, Add.
func TestAdd(t *testing.T) {
	checkExamples(t, small.Add, []example{
		{3, 4, 7, true},
		{3, -4, -1, true},
		{0, 0, 0, true},
		{most - 1, 1, most, true},
		{most, 0, most, true},
		{most, 1, 0, false},
		{most, most, 0, false},
		{least + 1, -1, least, true},
		{least, 0, least, true},
		{least, -1, 0, false},
		{least, least, 0, false},
		{least, most, -1, true},
		{most + 1, -1, 0, false},
		{-1, most + 1, 0, false},
		{least - 1, 1, 0, false},
		{1, least - 1, 0, false},
		{math.MinInt, math.MinInt, 0, false},
		{math.MaxInt, math.MaxInt, 0, false},
		{math.MaxInt, math.MinInt, 0, false},
		{math.MaxInt, 1, 0, false},
	})
}

// TestSub: promise SM1, Sub.
func TestSub(t *testing.T) {
	checkExamples(t, small.Sub, []example{
		{3, 4, -1, true},
		{3, -4, 7, true},
		{most, 0, most, true},
		{most, -1, 0, false},
		{most - 1, -1, most, true},
		{least, 0, least, true},
		{least, 1, 0, false},
		{least + 1, 1, least, true},
		{0, most, -most, true},
		{0, least, 0, false},
		{-1, least, most, true},
		{most, most, 0, true},
		{least, least, 0, true},
		{least, most, 0, false},
		{most, least, 0, false},
		{most + 1, 1, 0, false},
		{most + 1, most + 1, 0, false},
		{least - 1, least - 1, 0, false},
		{0, math.MinInt, 0, false},
		{math.MinInt, math.MinInt, 0, false},
		{math.MaxInt, math.MaxInt, 0, false},
	})
}

// TestMul: promise SM1, Mul. Some of the products that are too great are in range modulo 2^64.
func TestMul(t *testing.T) {
	checkExamples(t, small.Mul, []example{
		{3, 4, 12, true},
		{3, -4, -12, true},
		{-3, -4, 12, true},
		{0, most, 0, true},
		{least, 0, 0, true},
		{most, 1, most, true},
		{most, -1, -most, true},
		{least, 1, least, true},
		{least, -1, 0, false},
		{-1, least, 0, false},
		{1 << 60, -2, least, true},
		{1 << 60, 2, 0, false},
		{1518500249, 1518500249, 2305843006213062001, true},
		{1518500250, 1518500250, 0, false},
		{1 << 32, 1 << 32, 0, false},
		{1 << 60, 1 << 4, 0, false},
		{1<<32 + 1, 1<<32 - 1, 0, false},
		{6700417, 641 << 32, 0, false},
		{most, most, 0, false},
		{least, least, 0, false},
		{least, most, 0, false},
		{most + 1, 0, 0, false},
		{0, least - 1, 0, false},
		{most + 1, -1, 0, false},
		{math.MinInt, -1, 0, false},
		{-1, math.MinInt, 0, false},
		{math.MinInt, 0, 0, false},
		{math.MaxInt, 1, 0, false},
	})
}

// TestDiv: promise SM2, and the example of the chapter.
func TestDiv(t *testing.T) {
	for _, c := range []struct{ a, b, q, r int }{
		{7, 2, 3, 1},
		{-7, 2, -4, 1},
		{7, -2, -4, -1},
		{-7, -2, 3, -1},
		{6, 2, 3, 0},
		{-6, 2, -3, 0},
		{6, -2, -3, 0},
		{-6, -2, 3, 0},
		{1, 2, 0, 1},
		{-1, 2, -1, 1},
		{1, -2, -1, -1},
		{-1, -2, 0, -1},
		{0, 5, 0, 0},
		{0, -5, 0, 0},
		{least, 1, least, 0},
		{most, 1, most, 0},
		{most, -1, -most, 0},
		{least + 1, -1, most, 0},
		{least, least, 1, 0},
		{most, most, 1, 0},
		{most, least, -1, -1},
		{least, most, -2, most - 1},
		{1, least, -1, least + 1},
		{-1, most, -1, most - 1},
		{least, -2, 1 << 60, 0},
	} {
		q, r, err := small.Div(c.a, c.b)
		if q != c.q || r != c.r || err != nil {
			t.Errorf("Div(%d, %d) is %d, %d, %v, want %d, %d", c.a, c.b, q, r, err, c.q, c.r)
		}
	}
}

// TestDivErrors: promise SM2, the errors and their order.
func TestDivErrors(t *testing.T) {
	for _, c := range []struct {
		a, b int
		want api.Errno
	}{
		{0, 0, api.ErrZero},
		{1, 0, api.ErrZero},
		{least, 0, api.ErrZero},
		{most, 0, api.ErrZero},
		{least, -1, api.ErrRange},
		{most + 1, 0, api.ErrRange},
		{least - 1, 0, api.ErrRange},
		{math.MinInt, 0, api.ErrRange},
		{math.MaxInt, 0, api.ErrRange},
		{most + 1, 2, api.ErrRange},
		{least - 1, 2, api.ErrRange},
		{2, most + 1, api.ErrRange},
		{2, least - 1, api.ErrRange},
		{0, math.MinInt, api.ErrRange},
		{math.MinInt, -1, api.ErrRange},
		{math.MinInt, math.MinInt, api.ErrRange},
		{math.MaxInt, math.MaxInt, api.ErrRange},
	} {
		q, r, err := small.Div(c.a, c.b)
		if q != 0 || r != 0 || errno(t, err) != c.want {
			t.Errorf("Div(%d, %d) is %d, %d, %v, want error %d", c.a, c.b, q, r, err, c.want)
		}
	}
}

// TestDivDefinition: promise SM2, against the definition.
func TestDivDefinition(t *testing.T) {
	everyPair(func(a, b int) {
		q, r, err := small.Div(a, b)
		wantQ, wantR, want := refDiv(a, b)
		if q != wantQ || r != wantR || errno(t, err) != want {
			t.Fatalf("Div(%d, %d) is %d, %d, %v, want %d, %d, error %d", a, b, q, r, err, wantQ, wantR, want)
		}
	})
}

// TestDivLaw: promise SM3, and the size and the sign of the remainder, which then fix both results.
func TestDivLaw(t *testing.T) {
	divided := 0
	everyPair(func(a, b int) {
		q, r, err := small.Div(a, b)
		if err != nil {
			return
		}
		divided++
		whole := new(big.Int).Mul(wide(q), wide(b))
		if whole.Add(whole, wide(r)).Cmp(wide(a)) != 0 {
			t.Fatalf("Div(%d, %d): %d times %d, plus %d, is %v", a, b, q, b, r, whole)
		}
		if b > 0 && (r < 0 || r >= b) || b < 0 && (r > 0 || r <= b) {
			t.Fatalf("Div(%d, %d): the remainder is %d", a, b, r)
		}
	})
	if divided < 100000 {
		t.Errorf("only %d pairs were divided", divided)
	}
}

// TestWords: promise SM1, Tag and Of, of integers.
func TestWords(t *testing.T) {
	for _, c := range []struct {
		n    int
		want uint64
	}{
		{0, 1},
		{1, 5},
		{-1, 0xfffffffffffffffd},
		{2, 9},
		{-2, 0xfffffffffffffff9},
		{least, 0x8000000000000001},
		{least + 1, 0x8000000000000005},
		{most, 0x7ffffffffffffffd},
		{most - 1, 0x7ffffffffffffff9},
	} {
		if w, err := small.Tag(c.n); w != c.want || err != nil {
			t.Errorf("Tag(%d) is %#x, %v, want %#x", c.n, w, err, c.want)
		}
		if n, err := small.Of(c.want); n != c.n || err != nil {
			t.Errorf("Of(%#x) is %d, %v, want %d", c.want, n, err, c.n)
		}
	}
}

// TestTag: promise SM1, Tag against the definition, in and out of range, and Of of its results.
func TestTag(t *testing.T) {
	for _, n := range numbers() {
		w, err := small.Tag(n)
		if !refFits(wide(n)) {
			if w != 0 || errno(t, err) != api.ErrRange {
				t.Errorf("Tag(%d) is %#x, %v", n, w, err)
			}
			continue
		}
		if w != refWord(n) || err != nil {
			t.Errorf("Tag(%d) is %#x, %v", n, w, err)
		}
		if back, err := small.Of(w); back != n || err != nil {
			t.Errorf("Of(%#x) is %d, %v, want %d", w, back, err, n)
		}
	}
}

// TestOf: promise SM1, Of of words of all sizes with all four lowest pairs of bits.
func TestOf(t *testing.T) {
	check := func(w uint64) {
		n, err := small.Of(w)
		if w%4 != 1 {
			if n != 0 || errno(t, err) != api.ErrForm {
				t.Fatalf("Of(%#x) is %d, %v", w, n, err)
			}
			return
		}
		if err != nil || !refFits(wide(n)) || refWord(n) != w {
			t.Fatalf("Of(%#x) is %d, %v", w, n, err)
		}
	}
	for _, n := range numbers() {
		for low := range uint64(4) {
			check(uint64(n)<<2 | low)
			check(uint64(n)&^3 | low)
		}
	}
	everyRandomPair(func(a, _ int) { check(uint64(a)) })
}

// TestLimits: the range of the chapter is the one of package api.
func TestLimits(t *testing.T) {
	if api.Least != least || api.Most != most {
		t.Errorf("from %d to %d, want from %d to %d", api.Least, api.Most, least, most)
	}
}
