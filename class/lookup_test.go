package class_test

import (
	"math"
	"math/rand/v2"
	"slices"
	"strconv"
	"testing"

	"colloquy/class"
	"colloquy/method"
)

// refs returns numbers of classes, methods and chains to ask for, with many that are out of range.
func refs(n int) []int {
	return append(numbers(-3, n+3), math.MinInt, -1<<32, 1<<32, 1<<32+1, math.MaxInt)
}

// checkChain compares Names, Count and Under to the definition, for class c.
func checkChain(t *testing.T, l []class.Class, c int) {
	t.Helper()
	want := refNames(l, c)
	if got := class.Names(l, c); !slices.Equal(got, want) {
		t.Fatalf("Names(%v, %d) is %q, want %q", l, c, got, want)
	}
	if got := class.Count(l, c); got != len(want) {
		t.Fatalf("Count(%v, %d) is %d, want %d", l, c, got, len(want))
	}
	for _, above := range refs(len(l)) {
		if got := class.Under(l, c, above); got != refUnder(l, c, above) {
			t.Fatalf("Under(%v, %d, %d) is %t", l, c, above, got)
		}
	}
}

// answer is what a search returned: a number, and whether there is one.
type answer struct {
	number int
	found  bool
}

func answerOf(n int, ok bool) answer { return answer{n, ok} }

func checkFind(t *testing.T, l []class.Class, m []method.Method, c int, sel string) {
	t.Helper()
	if got, want := answerOf(class.Find(l, m, c, sel)), answerOf(refFind(l, m, c, sel)); got != want {
		t.Fatalf("Find(%v, %v, %d, %q) is %v, want %v", l, m, c, sel, got, want)
	}
}

func checkOf(t *testing.T, l []class.Class, name string) {
	t.Helper()
	if got, want := answerOf(class.Of(l, name)), answerOf(refOf(l, name)); got != want {
		t.Fatalf("Of(%v, %q) is %v, want %v", l, name, got, want)
	}
}

func checkOwner(t *testing.T, l []class.Class, m int) {
	t.Helper()
	if got, want := answerOf(class.Owner(l, m)), answerOf(refOwner(l, m)); got != want {
		t.Fatalf("Owner(%v, %d) is %v, want %v", l, m, got, want)
	}
}

// checkLookup compares all functions other than Check to their definitions.
func checkLookup(t *testing.T, l []class.Class, m []method.Method) {
	t.Helper()
	for _, c := range refs(len(l)) {
		checkChain(t, l, c)
		for _, e := range m {
			checkFind(t, l, m, c, e.Sel)
		}
		for _, sel := range []string{"", "name", "m0", "not a selector"} {
			checkFind(t, l, m, c, sel)
		}
	}
	for _, k := range l {
		checkOf(t, l, k.Name)
	}
	for _, name := range []string{"", "Object", "Nobody", "x", "object", "Objec", "Objects"} {
		checkOf(t, l, name)
	}
	for _, i := range refs(len(m)) {
		checkOwner(t, l, i)
	}
}

// TestFirst: promise CS1, the built-in classes, their numbers, and nothing else.
func TestFirst(t *testing.T) {
	l := class.First()
	if len(l) != 11 {
		t.Fatalf("First() has %d classes", len(l))
	}
	for c, name := range []string{"Object", "Integer", "LargeInteger", "Undefined", "Boolean", "String", "Array", "Block",
		"Env", "Class", "Semaphore"} {
		super := 0
		if c == 0 {
			super = -1
		}
		k := l[c]
		if k.Name != name || k.Super != super || len(k.Vars) != 0 || len(k.Methods) != 0 {
			t.Errorf("class %d is %v, want %s below %d", c, k, name, super)
		}
		if n, ok := class.Of(l, name); n != c || !ok {
			t.Errorf("Of(First(), %q) is %d, %t, want %d", name, n, ok, c)
		}
	}
	if err := class.Check(l, nil); err != nil {
		t.Errorf("Check(First(), nil) is %v", err)
	}
}

// TestSample: promises CS1 and CS2, all functions on valid classes, with results that are written out.
func TestSample(t *testing.T) {
	l, m := sample()
	for c, want := range map[int][]string{-1: nil, 0: nil, 5: nil, 11: {"balance", "owner"}, 12: {"balance", "owner", "rate"},
		13: {"balance"}, 14: {"balance", "owner", "rate"}, 15: nil} {
		if got := class.Names(l, c); !slices.Equal(got, want) || class.Count(l, c) != len(want) {
			t.Errorf("Names and Count of %d are %q, %d, want %q", c, got, class.Count(l, c), want)
		}
	}
	for _, e := range []struct {
		c     int
		above []int
	}{{-1, nil}, {0, []int{0}}, {5, []int{0, 5}}, {11, []int{0, 11}}, {12, []int{0, 11, 12}}, {13, []int{0, 13}},
		{14, []int{0, 11, 12, 14}}, {15, nil}} {
		for above := -2; above < 17; above++ {
			if class.Under(l, e.c, above) != slices.Contains(e.above, above) {
				t.Errorf("Under(%d, %d) is %t", e.c, above, class.Under(l, e.c, above))
			}
		}
	}
	for _, e := range []struct {
		c    int
		sel  string
		want int
	}{{0, "name", 2}, {0, "close", 8}, {0, "size", -1}, {0, "owner", -1}, {5, "size", 7}, {5, "name", 2}, {6, "size", -1},
		{11, "owner", 0}, {11, "balance", 4}, {11, "rate", -1}, {11, "close", 8}, {12, "close", 3}, {12, "rate", 1},
		{12, "owner", 0}, {12, "name", 2}, {13, "balance", 5}, {13, "owner", -1}, {13, "close", 8}, {14, "name", 6},
		{14, "close", 3}, {14, "balance", 4}, {14, "nothing", -1}, {14, "", -1}, {15, "name", -1}, {-1, "name", -1}} {
		if i, ok := class.Find(l, m, e.c, e.sel); i != max(e.want, 0) || ok != (e.want >= 0) {
			t.Errorf("Find(%d, %q) is %d, %t, want %d", e.c, e.sel, i, ok, e.want)
		}
	}
	for i, want := range []int{11, 12, 0, 12, 11, 13, 14, 5, 0, -1} {
		if c, ok := class.Owner(l, i); c != max(want, 0) || ok != (want >= 0) {
			t.Errorf("Owner(%d) is %d, %t, want %d", i, c, ok, want)
		}
	}
	for name, want := range map[string]int{"Account": 11, "Saving": 12, "Other": 13, "Bonus": 14, "Object": 0, "Class": 9,
		"account": -1, "": -1, "Accounts": -1} {
		if c, ok := class.Of(l, name); c != max(want, 0) || ok != (want >= 0) {
			t.Errorf("Of(%q) is %d, %t, want %d", name, c, ok, want)
		}
	}
	checkLookup(t, l, m)
}

// TestAllChains: promise CS2, all lists of up to five classes with every Super from -2 to the number behind the
// last class, for every class and numbers out of range.
func TestAllChains(t *testing.T) {
	for n := range 6 {
		supers := slices.Repeat([]int{-2}, n)
		for more := true; more; more = next(supers, -2, n) {
			var l []class.Class
			for c, super := range supers {
				l = append(l, class.Class{Super: super, Vars: texts("v"+strconv.Itoa(c), 0, c%3)})
			}
			for _, c := range append(numbers(-1, n+1), math.MinInt, math.MaxInt) {
				checkChain(t, l, c)
			}
		}
	}
}

// next counts up digits that are from lo to hi. It returns false where there is no next one.
func next(l []int, lo, hi int) bool {
	for i := range l {
		if l[i]++; l[i] <= hi {
			return true
		}
		l[i] = lo
	}
	return false
}

// TestChainEdges: promise CS2, a Super at the ends of int, and one that goes to a built-in class or to the class
// itself.
func TestChainEdges(t *testing.T) {
	for _, super := range edges() {
		for c := range 16 {
			l := plain(16)
			for i := range l {
				l[i].Vars = texts("v"+strconv.Itoa(i), 0, 2)
			}
			l[c].Super = super
			for k := range l {
				checkChain(t, l, k)
			}
		}
	}
}

// TestLongChain: promise CS2, a chain of many classes.
func TestLongChain(t *testing.T) {
	const n = 3000
	l := make([]class.Class, n)
	for c := range l {
		l[c] = class.Class{Super: c - 1, Vars: []string{strconv.Itoa(c)}, Methods: []int{c / 2}}
	}
	if got := class.Names(l, n-1); !slices.Equal(got, texts("", 0, n)) || class.Count(l, n-1) != n {
		t.Errorf("Names has %d names, Count is %d, want %d", len(got), class.Count(l, n-1), n)
	}
	if !class.Under(l, n-1, 0) || class.Under(l, 0, n-1) {
		t.Errorf("Under is wrong for the ends of the chain")
	}
	if i, ok := class.Find(l, simples(1), n-1, "m0"); i != 0 || !ok {
		t.Errorf("Find is %d, %t", i, ok)
	}
	if c, ok := class.Owner(l, n/2-1); c != n-2 || !ok {
		t.Errorf("Owner is %d, %t", c, ok)
	}
}

// TestFindOrder: promise CS2, of several methods with the selector Find returns the one that is listed first, in
// the lowest class; indices out of range are ignored wherever they stand.
func TestFindOrder(t *testing.T) {
	m := []method.Method{simple("a"), simple("b"), simple("a"), simple("a"), {}, simple("b")}
	for _, e := range []struct {
		lower, upper []int
		sel          string
		want         int
	}{
		{nil, nil, "a", -1},
		{[]int{0}, nil, "a", 0}, {nil, []int{0}, "a", 0}, {[]int{3}, []int{0}, "a", 3}, {[]int{0}, []int{3}, "a", 0},
		{[]int{2, 0, 3}, []int{3}, "a", 2}, {[]int{1, 3, 0}, []int{2}, "a", 3}, {[]int{1}, []int{5, 2}, "a", 2},
		{[]int{1}, []int{5, 2}, "b", 1}, {nil, []int{5, 1}, "b", 5}, {[]int{3, 3}, nil, "a", 3},
		{[]int{-1, 6, 2}, []int{0}, "a", 2}, {[]int{-1, 6}, []int{-5, 7, 3}, "a", 3}, {[]int{-1, 6}, []int{6, -1}, "a", -1},
		{[]int{math.MinInt, math.MaxInt, 5}, nil, "b", 5}, {[]int{1 << 32}, []int{-1 << 32}, "a", -1},
		{[]int{0, 4}, nil, "", 4}, {[]int{4}, []int{4}, "A", -1}, {[]int{0, 1, 2, 3, 4, 5}, nil, "a ", -1},
		{[]int{0, 1, 2, 3, 4, 5}, nil, "c", -1},
	} {
		l := []class.Class{{Super: -1, Methods: e.upper}, {Super: 0, Methods: []int{0, 1}}, {Super: 0, Methods: e.lower}}
		i, ok := class.Find(l, m, 2, e.sel)
		if i != max(e.want, 0) || ok != (e.want >= 0) {
			t.Errorf("Find of %q in %d and %d is %d, %t, want %d", e.sel, e.lower, e.upper, i, ok, e.want)
		}
		checkLookup(t, l, m)
		checkLookup(t, l, nil)
	}
}

// TestFirstOfSeveral: promises CS1 and CS2, Of and Owner return the first class, whatever it is.
func TestFirstOfSeveral(t *testing.T) {
	l := []class.Class{{Name: "B"}, {Name: "A", Methods: []int{3}}, {Name: "", Methods: []int{-1, 7}}, {Name: "B", Methods: []int{7, 0}},
		{Name: "A", Methods: []int{0, math.MaxInt, math.MinInt, 3}}, {Name: ""}}
	for name, want := range map[string]int{"B": 0, "A": 1, "": 2} {
		if c, ok := class.Of(l, name); c != want || !ok {
			t.Errorf("Of(%q) is %d, %t, want %d", name, c, ok, want)
		}
	}
	for m, want := range map[int]int{3: 1, -1: 2, 7: 2, 0: 3, math.MaxInt: 4, math.MinInt: 4} {
		if c, ok := class.Owner(l, m); c != want || !ok {
			t.Errorf("Owner(%d) is %d, %t, want %d", m, c, ok, want)
		}
	}
	checkLookup(t, l, simples(2))
}

// TestNothing: promises CS1 and CS2, and P8, no classes and no methods at all.
func TestNothing(t *testing.T) {
	checkLookup(t, nil, nil)
	checkLookup(t, []class.Class{}, simples(3))
	checkLookup(t, []class.Class{{}}, nil)
	checkLookup(t, class.First(), []method.Method{})
}

// TestLookupRandom: promises CS1 and CS2, fixed random lists, valid ones and such whose fields are arbitrary,
// against the definitions.
func TestLookupRandom(t *testing.T) {
	source := rand.New(rand.NewPCG(10, 1))
	for range 3000 {
		l, m := randomValid(source)
		checkLookup(t, l, m)
		l, m = damaged(source, l, m)
		checkLookup(t, l, m)
		l, m = randomAny(source)
		checkLookup(t, l, m)
	}
}

// checkInherits checks that class c has what each class has that is in its chain.
func checkInherits(t *testing.T, l []class.Class, m []method.Method, c int) {
	t.Helper()
	names := class.Names(l, c)
	for above := range l {
		if !class.Under(l, c, above) {
			continue
		}
		upper := class.Names(l, above)
		if len(upper) > len(names) || !slices.Equal(names[:len(upper)], upper) || class.Count(l, above) > class.Count(l, c) {
			t.Fatalf("the variables of %d are %q, and those of %d above it %q", c, names, above, upper)
		}
		for _, e := range append(m, method.Method{}) {
			_, higher := class.Find(l, m, above, e.Sel)
			i, lower := class.Find(l, m, c, e.Sel)
			if higher && (!lower || m[i].Sel != e.Sel) {
				t.Fatalf("%d understands %q, and %d below it does not", above, e.Sel, c)
			}
		}
	}
}

// TestInherits: promise CS3, the variables of a class begin with those of each class above it, and it
// understands all that they understand, in the sample and in fixed random lists, valid ones and others.
func TestInherits(t *testing.T) {
	source := rand.New(rand.NewPCG(10, 2))
	l, m := sample()
	for range 3000 {
		for c := range l {
			checkInherits(t, l, m, c)
		}
		if source.IntN(2) == 0 {
			l, m = randomValid(source)
		} else {
			l, m = randomAny(source)
		}
	}
}
