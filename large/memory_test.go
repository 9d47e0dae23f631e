package large_test

import (
	"slices"
	"strings"
	"testing"

	"colloquy/large"
)

// roomy returns a copy of a with spare capacity that is not 0.
func roomy(a large.Num) large.Num {
	words := append(slices.Clone(a.Mag), ones(3)...)
	return large.Num{Neg: a.Neg, Mag: words[:len(a.Mag)]}
}

// whole returns the words of a and those of its spare capacity.
func whole(a large.Num) []uint32 {
	return a.Mag[:cap(a.Mag)]
}

// checkApart fills each of the Nums, spare capacity included, and checks that this changed no other.
func checkApart(t *testing.T, name string, nums ...large.Num) {
	t.Helper()
	for i, a := range nums {
		for j := range whole(a) {
			whole(a)[j] = uint32(i)
		}
	}
	for i, a := range nums {
		for _, w := range whole(a) {
			if w != uint32(i) {
				t.Fatalf("%s: %d and %d share memory", name, i, w)
			}
		}
	}
}

// function is any function of the package as one of two Nums with a list of results.
type function struct {
	name string
	do   func(a, b large.Num) []large.Num
}

func functions() []function {
	list := []function{
		{"Check", func(a, _ large.Num) []large.Num { _ = large.Check(a); return nil }},
		{"Int", func(a, _ large.Num) []large.Num { large.Int(a); return nil }},
		{"Text", func(a, _ large.Num) []large.Num { _, _ = large.Text(a); return nil }},
		{"Cmp", func(a, b large.Num) []large.Num { _, _ = large.Cmp(a, b); return nil }},
		{"Div", func(a, b large.Num) []large.Num { q, r, _ := large.Div(a, b); return []large.Num{q, r} }},
	}
	for _, o := range operations() {
		list = append(list, function{o.name, func(a, b large.Num) []large.Num {
			n, _ := o.do(a, b)
			return []large.Num{n}
		}})
	}
	return list
}

// everyMemoryPair calls visit with pairs of all sizes, invalid Nums among them.
func everyMemoryPair(visit func(a, b large.Num)) {
	list := append(numbers(), invalidNums()[:12]...)
	for _, a := range list {
		for _, b := range list {
			visit(a, b)
		}
	}
}

// TestArgumentsKept: promise P8 and general rule 3, arguments are not changed, not even their spare
// capacity.
func TestArgumentsKept(t *testing.T) {
	for _, f := range functions() {
		everyMemoryPair(func(a, b large.Num) {
			a, b = roomy(a), roomy(b)
			beforeA, beforeB := slices.Clone(whole(a)), slices.Clone(whole(b))
			f.do(a, b)
			if !slices.Equal(whole(a), beforeA) || !slices.Equal(whole(b), beforeB) {
				t.Fatalf("%s changed %v, %v to %v, %v", f.name, beforeA, beforeB, whole(a), whole(b))
			}
		})
	}
}

// TestNewResults: promise P8 and general rules 3 and 4, no two results share memory, nor do a result
// and an argument; what becomes of results and arguments has no effect on the next call.
func TestNewResults(t *testing.T) {
	for _, f := range functions() {
		everyMemoryPair(func(a, b large.Num) {
			argumentA, argumentB := roomy(a), roomy(b)
			first := f.do(argumentA, argumentB)
			var want []large.Num
			for _, n := range first {
				want = append(want, clone(n))
			}
			second := f.do(argumentA, argumentB)
			checkApart(t, f.name, slices.Concat(first, second, []large.Num{argumentA, argumentB})...)
			if third := f.do(roomy(a), roomy(b)); !slices.EqualFunc(third, want, same) {
				t.Fatalf("%s of %v and %v is %v, later %v", f.name, a, b, want, third)
			}
		})
	}
}

// TestSameArgument: promise P8 and general rule 3, where both arguments are one slice.
func TestSameArgument(t *testing.T) {
	for _, f := range functions() {
		for _, a := range append(numbers(), invalidNums()...) {
			one := roomy(a)
			before := slices.Clone(whole(one))
			got := f.do(one, one)
			if want := f.do(clone(a), clone(a)); !slices.EqualFunc(got, want, same) {
				t.Fatalf("%s of %v twice is %v, want %v", f.name, a, got, want)
			}
			if !slices.Equal(whole(one), before) {
				t.Fatalf("%s changed %v to %v", f.name, before, whole(one))
			}
			checkApart(t, f.name, append(got, one)...)
		}
	}
}

// TestNewNumbers: promise P8 and general rules 3 and 4, for Of and Parse.
func TestNewNumbers(t *testing.T) {
	for _, n := range []int{0, 1, -1, 1 << 32, -1 << 63} {
		checkApart(t, "Of", large.Of(n), large.Of(n))
		if got, ok := large.Int(large.Of(n)); got != n || !ok {
			t.Errorf("Of(%d) is later %v", n, large.Of(n))
		}
	}
	for _, s := range []string{"0", "1", "-1", "4294967296", "-", strings.Repeat("9", 616)} {
		first, err := large.Parse(s)
		want := clone(first)
		second, _ := large.Parse(s)
		checkApart(t, "Parse", first, second)
		if third, err2 := large.Parse(s); !same(third, want) || (err == nil) != (err2 == nil) {
			t.Errorf("Parse(%q) is later %v, %v", s, third, err2)
		}
	}
}
