package large_test

import (
	"slices"
	"testing"

	"colloquy/large"
)

// exact has the operations of the package; it notes whether a result was too long.
type exact struct {
	t    *testing.T
	long bool
}

func (e *exact) note(a large.Num, err error) large.Num {
	if err != nil {
		e.long = true
	} else if large.Check(a) != nil {
		e.t.Fatalf("the result %v is not valid", a)
	}
	return a
}

func (e *exact) add(a, b large.Num) large.Num { return e.note(large.Add(a, b)) }
func (e *exact) sub(a, b large.Num) large.Num { return e.note(large.Sub(a, b)) }
func (e *exact) mul(a, b large.Num) large.Num { return e.note(large.Mul(a, b)) }

// law compares two sides, unless a part of them was too long. It reports whether it did.
func law(t *testing.T, name string, sides func(e *exact) (large.Num, large.Num)) int {
	t.Helper()
	e := &exact{t: t}
	left, right := sides(e)
	if e.long {
		return 0
	}
	if !same(left, right) {
		t.Fatalf("%s: %v and %v", name, left, right)
	}
	return 1
}

// TestLawsOfTwo: promise LG4, laws of one and two numbers.
func TestLawsOfTwo(t *testing.T) {
	zero, one, held := num(), num(1), 0
	everyPair(func(a, b large.Num) {
		held += law(t, "a + b = b + a", func(e *exact) (large.Num, large.Num) { return e.add(a, b), e.add(b, a) })
		held += law(t, "a * b = b * a", func(e *exact) (large.Num, large.Num) { return e.mul(a, b), e.mul(b, a) })
		held += law(t, "a + b - b = a", func(e *exact) (large.Num, large.Num) { return e.sub(e.add(a, b), b), a })
		held += law(t, "a - b = -(b - a)", func(e *exact) (large.Num, large.Num) { return e.sub(a, b), e.sub(zero, e.sub(b, a)) })
		held += law(t, "a - b = a + -b", func(e *exact) (large.Num, large.Num) { return e.sub(a, b), e.add(a, e.sub(zero, b)) })
		held += law(t, "a * -b = -(a * b)", func(e *exact) (large.Num, large.Num) { return e.mul(a, e.sub(zero, b)), e.sub(zero, e.mul(a, b)) })
		held += law(t, "a + 0 = a", func(e *exact) (large.Num, large.Num) { return e.add(a, zero), a })
		held += law(t, "a * 1 = a", func(e *exact) (large.Num, large.Num) { return e.mul(a, one), a })
		held += law(t, "a * 0 = 0", func(e *exact) (large.Num, large.Num) { return e.mul(a, zero), zero })
		held += law(t, "a - a = 0", func(e *exact) (large.Num, large.Num) { return e.sub(a, a), zero })
	})
	if held < 100000 {
		t.Errorf("only %d laws were compared", held)
	}
}

// TestLawsOfThree: promise LG4, laws of three numbers.
func TestLawsOfThree(t *testing.T) {
	held := [3]int{}
	everyTriple(func(a, b, c large.Num) {
		held[0] += law(t, "(a + b) + c = a + (b + c)", func(e *exact) (large.Num, large.Num) {
			return e.add(e.add(a, b), c), e.add(a, e.add(b, c))
		})
		held[1] += law(t, "(a * b) * c = a * (b * c)", func(e *exact) (large.Num, large.Num) {
			return e.mul(e.mul(a, b), c), e.mul(a, e.mul(b, c))
		})
		held[2] += law(t, "a * (b + c) = a * b + a * c", func(e *exact) (large.Num, large.Num) {
			return e.mul(a, e.add(b, c)), e.add(e.mul(a, b), e.mul(a, c))
		})
	})
	if slices.Min(held[:]) < 1000 {
		t.Errorf("only %v laws were compared", held)
	}
}

// TestLawOfDiv: promises LG2 and LG4, q * b + r is a, and r lies between 0 and b.
func TestLawOfDiv(t *testing.T) {
	divided := 0
	everyPair(func(a, b large.Num) {
		if len(b.Mag) == 0 {
			return
		}
		q, r, err := large.Div(a, b)
		if err != nil {
			t.Fatalf("Div(%v, %v): error %v", a, b, err)
		}
		divided += law(t, "q * b + r = a", func(e *exact) (large.Num, large.Num) {
			return e.add(e.mul(q, b), r), a
		})
		nearer, err := large.Cmp(large.Num{Mag: r.Mag}, large.Num{Mag: b.Mag})
		if nearer != -1 || err != nil || len(r.Mag) > 0 && r.Neg != b.Neg {
			t.Fatalf("Div(%v, %v): the remainder is %v", a, b, r)
		}
	})
	if divided < 10000 {
		t.Errorf("only %d pairs were divided", divided)
	}
}

// TestLawsOfCmp: promise LG4, Cmp is an order that agrees with Sub, Add and Mul.
func TestLawsOfCmp(t *testing.T) {
	zero := num()
	cmp := func(a, b large.Num) int {
		n, err := large.Cmp(a, b)
		if err != nil {
			t.Fatalf("Cmp(%v, %v): error %v", a, b, err)
		}
		return n
	}
	everyPair(func(a, b large.Num) {
		if cmp(a, b) != -cmp(b, a) || cmp(a, a) != 0 || (cmp(a, b) == 0) != same(a, b) {
			t.Fatalf("Cmp of %v and %v is %d, and %d", a, b, cmp(a, b), cmp(b, a))
		}
		if d, err := large.Sub(a, b); err == nil && cmp(d, zero) != cmp(a, b) {
			t.Fatalf("%v minus %v is %v", a, b, d)
		}
		if p, err := large.Mul(a, b); err == nil && cmp(p, zero) != cmp(a, zero)*cmp(b, zero) {
			t.Fatalf("%v times %v is %v", a, b, p)
		}
	})
	everyTriple(func(a, b, c large.Num) {
		if cmp(a, b) <= 0 && cmp(b, c) <= 0 && cmp(a, c) > 0 {
			t.Fatalf("Cmp is not transitive: %v, %v, %v", a, b, c)
		}
		left, err := large.Add(a, c)
		right, err2 := large.Add(b, c)
		if err == nil && err2 == nil && cmp(left, right) != cmp(a, b) {
			t.Fatalf("Cmp(%v, %v) changes with %v", a, b, c)
		}
	})
}
