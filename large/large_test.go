package large_test

import (
	"math"
	"math/big"
	"slices"
	"testing"

	"colloquy/api"
	"colloquy/large"
)

type operation struct {
	name string
	do   func(a, b large.Num) (large.Num, error)
	ref  func(z, a, b *big.Int) *big.Int
}

func operations() []operation {
	return []operation{
		{"Add", large.Add, (*big.Int).Add},
		{"Sub", large.Sub, (*big.Int).Sub},
		{"Mul", large.Mul, (*big.Int).Mul},
	}
}

// ones returns n words with all bits set.
func ones(n int) []uint32 {
	return slices.Repeat([]uint32{math.MaxUint32}, n)
}

// bit returns the words of 2^n.
func bit(n int) []uint32 {
	return append(make([]uint32, n/32), 1<<(n%32))
}

// TestCheck: promise LG1, Check.
func TestCheck(t *testing.T) {
	valid := append(numbers(), num(), large.Num{Mag: []uint32{}}, num(ones(64)...), minus(ones(64)...), num(bit(2047)...))
	for _, a := range valid {
		if err := large.Check(a); err != nil {
			t.Errorf("%v: error %v", a, err)
		}
	}
	for _, a := range invalidNums() {
		if n := errno(t, large.Check(a)); n != api.ErrArg {
			t.Errorf("%v of %d words: error %d", a.Neg, len(a.Mag), n)
		}
	}
}

// TestOf: promise LG1, Of, and Int of what it returns.
func TestOf(t *testing.T) {
	for _, c := range []struct {
		n    int
		want large.Num
	}{
		{0, num()},
		{1, num(1)},
		{-1, minus(1)},
		{math.MaxUint32, num(math.MaxUint32)},
		{-math.MaxUint32, minus(math.MaxUint32)},
		{1 << 32, num(0, 1)},
		{-1 << 32, minus(0, 1)},
		{api.Most, num(math.MaxUint32, 1<<29-1)},
		{api.Least, minus(0, 1<<29)},
		{math.MaxInt, num(math.MaxUint32, 1<<31-1)},
		{math.MinInt + 1, minus(math.MaxUint32, 1<<31-1)},
		{math.MinInt, minus(0, 1<<31)},
	} {
		if got := large.Of(c.n); !same(got, c.want) {
			t.Errorf("Of(%d) is %v, want %v", c.n, got, c.want)
		}
		if n, ok := large.Int(c.want); n != c.n || !ok {
			t.Errorf("Int(%v) is %d, %v, want %d", c.want, n, ok, c.n)
		}
	}
}

// TestOfDefinition: promise LG1, Of and Int against the definition, for the powers of two and their
// neighbours.
func TestOfDefinition(t *testing.T) {
	for shift := range 64 {
		for step := -1; step <= 1; step++ {
			for _, n := range []int{1<<shift + step, -1<<shift + step} {
				a := large.Of(n)
				if want := ofBig(big.NewInt(int64(n))); !same(a, want) {
					t.Errorf("Of(%d) is %v, want %v", n, a, want)
				}
				if back, ok := large.Int(a); back != n || !ok {
					t.Errorf("Int(Of(%d)) is %d, %v", n, back, ok)
				}
			}
		}
	}
}

// TestInt: promise LG1, Int.
func TestInt(t *testing.T) {
	for _, a := range []large.Num{
		num(0, 1<<31),
		num(1, 1<<31),
		minus(1, 1<<31),
		minus(0, 1<<31+1),
		num(math.MaxUint32, math.MaxUint32),
		minus(math.MaxUint32, math.MaxUint32),
		num(0, 0, 1),
		num(7, 0, 1),
		minus(7, 0, 1),
		num(ones(64)...),
		minus(ones(64)...),
	} {
		if n, ok := large.Int(a); n != 0 || ok {
			t.Errorf("Int(%v) is %d, %v", a, n, ok)
		}
	}
	for _, a := range numbers() {
		n, ok := large.Int(a)
		want := toBig(a)
		if ok != want.IsInt64() || ok && int64(n) != want.Int64() || !ok && n != 0 {
			t.Errorf("Int(%v) is %d, %v", a, n, ok)
		}
	}
	for _, a := range invalidNums() {
		if n, ok := large.Int(a); n != 0 || ok {
			t.Errorf("Int of %v and %d words is %d, %v", a.Neg, len(a.Mag), n, ok)
		}
	}
}

type example struct {
	a, b, want large.Num
	code       api.Errno
}

func checkExamples(t *testing.T, do func(a, b large.Num) (large.Num, error), examples []example) {
	t.Helper()
	for _, e := range examples {
		if got, err := do(e.a, e.b); !same(got, e.want) || errno(t, err) != e.code {
			t.Errorf("of %v and %v: %v, %v, want %v, error %d", e.a, e.b, got, err, e.want, e.code)
		}
	}
}

// TestAdd: promise LG1, Add.
func TestAdd(t *testing.T) {
	checkExamples(t, large.Add, []example{
		{num(3), num(4), num(7), 0},
		{num(3), minus(4), minus(1), 0},
		{minus(3), num(4), num(1), 0},
		{minus(3), minus(4), minus(7), 0},
		{num(4), minus(4), num(), 0},
		{minus(4), num(4), num(), 0},
		{num(), num(), num(), 0},
		{large.Num{Mag: []uint32{}}, minus(1), minus(1), 0},
		{num(math.MaxUint32), num(1), num(0, 1), 0},
		{num(0, 1), minus(1), num(math.MaxUint32), 0},
		{num(1), num(ones(63)...), num(bit(2016)...), 0},
		{num(bit(2016)...), minus(1), num(ones(63)...), 0},
		{num(ones(64)...), num(), num(ones(64)...), 0},
		{num(ones(64)...), num(1), num(), api.ErrLong},
		{minus(ones(64)...), minus(1), num(), api.ErrLong},
		{num(ones(64)...), minus(1), num(append([]uint32{math.MaxUint32 - 1}, ones(63)...)...), 0},
		{num(ones(64)...), minus(ones(64)...), num(), 0},
		{num(ones(64)...), num(ones(64)...), num(), api.ErrLong},
		{num(bit(2047)...), num(bit(2047)...), num(), api.ErrLong},
	})
}

// TestSub: promise LG1, Sub.
func TestSub(t *testing.T) {
	checkExamples(t, large.Sub, []example{
		{num(3), num(4), minus(1), 0},
		{num(3), minus(4), num(7), 0},
		{minus(3), num(4), minus(7), 0},
		{minus(3), minus(4), num(1), 0},
		{minus(4), minus(4), num(), 0},
		{num(), num(), num(), 0},
		{num(), num(5), minus(5), 0},
		{num(), minus(5), num(5), 0},
		{minus(5), num(), minus(5), 0},
		{num(), num(ones(64)...), minus(ones(64)...), 0},
		{minus(1), num(ones(63)...), minus(bit(2016)...), 0},
		{num(ones(64)...), minus(1), num(), api.ErrLong},
		{minus(ones(64)...), num(1), num(), api.ErrLong},
		{minus(ones(64)...), num(), minus(ones(64)...), 0},
		{minus(bit(2047)...), num(bit(2047)...), num(), api.ErrLong},
		{num(ones(64)...), num(ones(64)...), num(), 0},
	})
}

// TestMul: promise LG1, Mul.
func TestMul(t *testing.T) {
	checkExamples(t, large.Mul, []example{
		{num(3), num(4), num(12), 0},
		{num(3), minus(4), minus(12), 0},
		{minus(3), num(4), minus(12), 0},
		{minus(3), minus(4), num(12), 0},
		{num(), minus(4), num(), 0},
		{minus(4), num(), num(), 0},
		{num(), minus(ones(64)...), num(), 0},
		{num(math.MaxUint32), num(math.MaxUint32), num(1, math.MaxUint32-1), 0},
		{num(ones(2)...), num(ones(2)...), num(1, 0, math.MaxUint32-1, math.MaxUint32), 0},
		{num(ones(64)...), minus(1), minus(ones(64)...), 0},
		{num(ones(64)...), num(2), num(), api.ErrLong},
		{num(bit(2046)...), minus(2), minus(bit(2047)...), 0},
		{num(bit(2046)...), num(4), num(), api.ErrLong},
		{num(bit(1023)...), num(bit(1024)...), num(bit(2047)...), 0},
		{num(bit(1024)...), num(bit(1024)...), num(), api.ErrLong},
		{num(bit(1024)...), num(ones(32)...), num(append(make([]uint32, 32), ones(32)...)...), 0},
		{num(ones(64)...), num(ones(64)...), num(), api.ErrLong},
		{minus(ones(64)...), num(), num(), 0},
	})
}

// TestOperations: promise LG1, Add, Sub and Mul, against the definition.
func TestOperations(t *testing.T) {
	for _, o := range operations() {
		everyPair(func(a, b large.Num) {
			got, err := o.do(a, b)
			checkResult(t, o.name, a, b, got, err, o.ref(new(big.Int), toBig(a), toBig(b)))
		})
	}
}

// TestCmp: promise LG1, Cmp.
func TestCmp(t *testing.T) {
	for _, c := range []struct {
		a, b large.Num
		want int
	}{
		{num(3), num(4), -1},
		{num(4), num(3), 1},
		{num(4), num(4), 0},
		{minus(3), minus(4), 1},
		{minus(4), minus(3), -1},
		{minus(4), minus(4), 0},
		{minus(4), num(3), -1},
		{num(3), minus(4), 1},
		{num(), large.Num{Mag: []uint32{}}, 0},
		{num(), minus(1), 1},
		{minus(1), num(), -1},
		{num(), num(1), -1},
		{num(9, 1), num(1, 2), -1},
		{minus(9, 1), minus(1, 2), 1},
		{num(9, 9), num(1, 1, 1), -1},
		{minus(9, 9), minus(1, 1, 1), 1},
		{num(1<<31, 1), num(1, 1), 1},
		{num(ones(64)...), minus(ones(64)...), 1},
	} {
		if got, err := large.Cmp(c.a, c.b); got != c.want || err != nil {
			t.Errorf("Cmp(%v, %v) is %d, %v, want %d", c.a, c.b, got, err, c.want)
		}
	}
	everyPair(func(a, b large.Num) {
		if got, err := large.Cmp(a, b); got != toBig(a).Cmp(toBig(b)) || err != nil {
			t.Fatalf("Cmp(%v, %v) is %d, %v", a, b, got, err)
		}
	})
}

// TestDiv: promise LG2, the quotient is rounded down, and the remainder has the sign of b.
func TestDiv(t *testing.T) {
	for _, c := range []struct{ a, b, q, r large.Num }{
		{num(7), num(2), num(3), num(1)},
		{minus(7), num(2), minus(4), num(1)},
		{num(7), minus(2), minus(4), minus(1)},
		{minus(7), minus(2), num(3), minus(1)},
		{num(6), num(2), num(3), num()},
		{minus(6), num(2), minus(3), num()},
		{num(6), minus(2), minus(3), num()},
		{minus(6), minus(2), num(3), num()},
		{num(1), num(2), num(), num(1)},
		{minus(1), num(2), minus(1), num(1)},
		{num(1), minus(2), minus(1), minus(1)},
		{minus(1), minus(2), num(), minus(1)},
		{num(), num(5), num(), num()},
		{num(), minus(5), num(), num()},
		{large.Num{Mag: []uint32{}}, minus(5), num(), num()},
		{minus(1), num(ones(64)...), minus(1), num(append([]uint32{math.MaxUint32 - 1}, ones(63)...)...)},
		{num(1), minus(ones(64)...), minus(1), minus(append([]uint32{math.MaxUint32 - 1}, ones(63)...)...)},
		{num(ones(64)...), num(1), num(ones(64)...), num()},
		{num(ones(64)...), minus(1), minus(ones(64)...), num()},
		{minus(ones(64)...), num(1), minus(ones(64)...), num()},
		{num(ones(64)...), num(ones(64)...), num(1), num()},
		{num(ones(64)...), num(bit(2047)...), num(1), num(append(ones(63), 1<<31-1)...)},
		{num(0, 1), num(3), num(1431655765), num(1)},
		{num(0, 0, 1), num(0, 1), num(0, 1), num()},
		{minus(1, 0, 1), num(0, 1), minus(1, 1), num(math.MaxUint32)},
		{num(3, 4), num(3, 5), num(), num(3, 4)},
	} {
		q, r, err := large.Div(c.a, c.b)
		if !same(q, c.q) || !same(r, c.r) || err != nil {
			t.Errorf("Div(%v, %v) is %v, %v, %v, want %v, %v", c.a, c.b, q, r, err, c.q, c.r)
		}
	}
}

// TestDivDefinition: promise LG2, against the definition; ErrLong is never due.
func TestDivDefinition(t *testing.T) {
	everyPair(func(a, b large.Num) { checkDiv(t, a, b) })
}

// TestDivBorders: promise LG2, for multiples of b and their neighbours, where a digit of the quotient
// is easily one too high.
func TestDivBorders(t *testing.T) {
	everyPair(func(a, b large.Num) {
		product, err := large.Mul(a, b)
		if err != nil {
			return
		}
		for step := int64(-1); step <= 1; step++ {
			if n := plus(toBig(product), step); hasWords(n) {
				checkDiv(t, ofBig(n), b)
			}
		}
	})
}

func checkDiv(t *testing.T, a, b large.Num) {
	t.Helper()
	q, r, err := large.Div(a, b)
	if len(b.Mag) == 0 {
		if !same(q, large.Num{}) || !same(r, large.Num{}) || errno(t, err) != api.ErrZero {
			t.Fatalf("Div(%v, 0) is %v, %v, %v", a, q, r, err)
		}
		return
	}
	wantQ, wantR := refDiv(toBig(a), toBig(b))
	checkResult(t, "Div", a, b, q, err, wantQ)
	checkResult(t, "the remainder of Div", a, b, r, err, wantR)
}

// TestInvalid: promises LG1 to LG3, ErrArg in either place, ahead of ErrZero and ErrLong.
func TestInvalid(t *testing.T) {
	others := []large.Num{num(), num(1), minus(7, 7), num(ones(64)...)}
	for _, bad := range invalidNums() {
		if s, err := large.Text(bad); s != "" || errno(t, err) != api.ErrArg {
			t.Errorf("Text of %v and %d words is %q, %v", bad.Neg, len(bad.Mag), s, err)
		}
		for _, other := range append(others, bad, num(0), large.Num{Neg: true}) {
			checkInvalid(t, bad, other)
			checkInvalid(t, other, bad)
		}
	}
}

func checkInvalid(t *testing.T, a, b large.Num) {
	t.Helper()
	for _, o := range operations() {
		if got, err := o.do(a, b); !same(got, large.Num{}) || errno(t, err) != api.ErrArg {
			t.Errorf("%s of %d and %d words is %v, %v", o.name, len(a.Mag), len(b.Mag), got, err)
		}
	}
	if q, r, err := large.Div(a, b); !same(q, large.Num{}) || !same(r, large.Num{}) || errno(t, err) != api.ErrArg {
		t.Errorf("Div of %d and %d words is %v, %v, %v", len(a.Mag), len(b.Mag), q, r, err)
	}
	if n, err := large.Cmp(a, b); n != 0 || errno(t, err) != api.ErrArg {
		t.Errorf("Cmp of %d and %d words is %d, %v", len(a.Mag), len(b.Mag), n, err)
	}
}

// TestLimit: the number of words of the chapter is the one of package api.
func TestLimit(t *testing.T) {
	if api.MaxDigits != 64 {
		t.Errorf("%d words", api.MaxDigits)
	}
}
