package class_test

import (
	"math"
	"math/rand/v2"
	"slices"
	"strconv"
	"strings"
	"testing"

	"colloquy/api"
	"colloquy/class"
	"colloquy/method"
)

// checkValid checks whether classes and methods are valid, and that the definition agrees.
func checkValid(t *testing.T, name string, l []class.Class, m []method.Method, want bool) {
	t.Helper()
	n := errno(t, class.Check(l, m))
	if want && n != 0 || !want && n != api.ErrCode {
		t.Errorf("%s: Check(%v, %v) is error %d, want %t", name, l, m, n, want)
	}
	if refValid(l, m) != want {
		t.Errorf("%s: by the definition, %v, %v is valid: %t", name, l, m, !want)
	}
}

// checkDefinition compares Check to the definition. It returns whether the classes and methods are valid.
func checkDefinition(t *testing.T, l []class.Class, m []method.Method) bool {
	t.Helper()
	n := errno(t, class.Check(l, m))
	want := refValid(l, m)
	if want && n != 0 || !want && n != api.ErrCode {
		t.Fatalf("Check(%v, %v) is error %d, want %t", l, m, n, want)
	}
	return want
}

// TestCheckSample: promise CS1, valid classes and methods, and nothing at all.
func TestCheckSample(t *testing.T) {
	l, m := sample()
	checkValid(t, "sample", l, m, true)
	checkValid(t, "without methods", l, nil, false)
	checkValid(t, "without classes", nil, m, false)
	checkValid(t, "nothing", nil, nil, false)
	checkValid(t, "one zero Class", []class.Class{{}}, nil, false)
	checkValid(t, "built-in", with(), nil, true)
	checkValid(t, "empty lists", with(class.Class{Name: "A", Vars: []string{}, Methods: []int{}}), []method.Method{}, true)
}

// TestCheckClassCount: promise CS1, from 11 to 64 classes.
func TestCheckClassCount(t *testing.T) {
	for n := range 11 {
		checkValid(t, "too few classes", with()[:n], nil, false)
		checkValid(t, "others are first", append(with()[:n], plain(30)[11:]...), nil, false)
	}
	for _, n := range append(numbers(11, 80), 255, 256, 257, 1000, 1<<16) {
		checkValid(t, "classes", plain(n), nil, n <= 64)
	}
}

// TestCheckBuiltIn: promise CS1, the built-in classes stand first, as they are, but for methods.
func TestCheckBuiltIn(t *testing.T) {
	for c := range 11 {
		for _, name := range append(builtIn(), "", "object", "Objects", "Other", builtIn()[c]+" ") {
			l := plain(13)
			l[c].Name = name
			checkValid(t, "name", l, nil, name == builtIn()[c])
		}
		for _, super := range edges() {
			l := plain(13)
			l[c].Super = super
			checkValid(t, "super", l, nil, super == min(c-1, 0))
		}
		for _, n := range []int{1, 2, 16, 17} {
			l := plain(13)
			l[c].Vars = texts("v", 0, n)
			checkValid(t, "variables", l, nil, false)
		}
		l := plain(13)
		l[c].Vars = []string{}
		l[c].Methods = []int{1, 0}
		checkValid(t, "methods", l, simples(2), true)
		checkValid(t, "variable in a method", l, []method.Method{simple("a"), reader("b", 0)}, false)
		l[c].Vars = []string{"a"}
		checkValid(t, "a variable and a method for it", l, []method.Method{simple("a"), reader("b", 0)}, false)
		for d := range c {
			l := plain(13)
			l[c], l[d] = l[d], l[c]
			checkValid(t, "order", l, nil, false)
			l = plain(13)
			l[c].Name, l[d].Name = l[d].Name, l[c].Name
			checkValid(t, "order of names", l, nil, false)
		}
		checkValid(t, "one less", slices.Delete(plain(13), c, c+1), nil, false)
		checkValid(t, "one more", slices.Insert(plain(13), c, class.Class{Name: "New"}), nil, false)
	}
}

// TestCheckNames: promise CS1, the name of a class that is not built in, first and last, is a class name.
func TestCheckNames(t *testing.T) {
	good, bad := names(capitals, smalls)
	good = append(good, "Self", "Super", "Nil", "True", "False", "Objects", "ObJect", "Main")
	bad = append(bad, "self", "super", "nil", "true", "false", "object", " Object", "Main ")
	for _, c := range []int{11, 12, 14} {
		for _, name := range good {
			l := plain(15)
			l[c].Name = name
			checkValid(t, "class name", l, nil, true)
		}
		for _, name := range bad {
			l := plain(15)
			l[c].Name = name
			checkValid(t, "no class name", l, nil, false)
		}
	}
}

// TestCheckBytes: promise CS1, each byte at each place of names of classes and variables.
func TestCheckBytes(t *testing.T) {
	for b := range 256 {
		for _, n := range []int{1, 2, 3, 31, 32, 33} {
			for at := range n {
				upper, lower := []byte(strings.Repeat("K", n)), []byte(strings.Repeat("k", n))
				upper[at], lower[at] = byte(b), byte(b)
				l := with(class.Class{Name: string(upper), Vars: []string{"x", "y1"}})
				checkDefinition(t, l, nil)
				l = with(class.Class{Name: "K", Vars: []string{"x", string(lower)}})
				if valid := checkDefinition(t, l, nil); valid != (n <= 32 && mayStand(byte(b), at) && string(lower) != "x") {
					t.Errorf("%q as a variable: %t", lower, valid)
				}
			}
		}
	}
}

// mayStand reports whether a byte may stand at a place of a variable name.
func mayStand(b byte, at int) bool {
	if b >= 'a' && b <= 'z' {
		return true
	}
	return at > 0 && (b >= 'A' && b <= 'Z' || b >= '0' && b <= '9')
}

// TestCheckSuper: promise CS1, the Super of a class that is not built in is 0 or that of an earlier one of these.
func TestCheckSuper(t *testing.T) {
	for c := 11; c < 64; c++ {
		for _, super := range append(edges(), numbers(20, 66)...) {
			l := plain(64)
			l[c].Super = super
			checkValid(t, "super", l, nil, super == 0 || super >= 11 && super < c)
			checkValid(t, "super of the last class", l[:c+1], nil, super == 0 || super >= 11 && super < c)
		}
	}
}

// TestCheckSameNames: promise CS1, no two classes have the same name.
func TestCheckSameNames(t *testing.T) {
	for c := 11; c < 64; c++ {
		for d := range 64 {
			l := plain(64)
			l[c].Name = l[d].Name
			checkValid(t, "name of another class", l, nil, c == d)
			l[c].Name += "x"
			checkValid(t, "another name", l, nil, true)
		}
	}
	checkValid(t, "case", with(class.Class{Name: "AB"}, class.Class{Name: "Ab"}, class.Class{Name: "OBJECT"}), nil, true)
	checkValid(t, "name of a variable", with(class.Class{Name: "Ab", Vars: []string{"ab", "aB"}}), nil, true)
	checkValid(t, "a class below another of its name", with(class.Class{Name: "A"}, class.Class{Name: "A", Super: 11}), nil,
		false)
}

// TestCheckVars: promise CS1, the elements of Vars are variable names, at each place.
func TestCheckVars(t *testing.T) {
	good, bad := names(smalls, capitals)
	good = append(good, "selfs", "sel", "sElf", "supers", "supe", "nils", "ni", "trues", "tru", "falses", "fals", "falsE",
		"main", "object", "class", "thisContext")
	bad = append(bad, "self", "super", "nil", "true", "false", "Self", "Object", " self", "x y")
	check := func(s string, want bool) {
		t.Helper()
		for at := range 3 {
			vars := []string{"one", "two", "three"}
			vars[at] = s
			first := class.Class{Name: "A", Vars: vars}
			checkValid(t, "variable", with(first), nil, want)
			checkValid(t, "variable above", with(first, class.Class{Name: "B", Super: 11, Vars: []string{"four"}}), nil, want)
			last := class.Class{Name: "B", Super: 11, Vars: vars}
			checkValid(t, "variable below", with(class.Class{Name: "A", Vars: []string{"four"}}, last), nil, want)
		}
	}
	for _, s := range good {
		check(s, true)
	}
	for _, s := range bad {
		check(s, false)
	}
}

// TestCheckSameVars: promise CS1, the variables of a class and of those above it are different from one another,
// but not from those of other classes.
func TestCheckSameVars(t *testing.T) {
	for _, e := range []struct {
		name          string
		a, b, c, d, e []string // c is below b and b below a; d is below a, and e is below none of them
		want          bool
	}{
		{"different", []string{"a"}, []string{"b"}, []string{"c"}, []string{"d"}, []string{"e"}, true},
		{"twice", []string{"a", "a"}, nil, nil, nil, nil, false},
		{"twice, not side by side", nil, nil, []string{"a", "b", "c", "a"}, nil, nil, false},
		{"twice, in the last class", nil, nil, nil, nil, []string{"b", "a", "a"}, false},
		{"in the class above", []string{"a", "x"}, []string{"b", "x"}, nil, nil, nil, false},
		{"first of the class above", []string{"x", "a"}, nil, nil, []string{"b", "c", "x"}, nil, false},
		{"two classes above", []string{"a", "x"}, []string{"b"}, []string{"x", "c"}, nil, nil, false},
		{"two classes above, none between", []string{"x"}, nil, []string{"x"}, nil, nil, false},
		{"beside", nil, []string{"x"}, nil, []string{"x"}, []string{"x"}, true},
		{"beside the class below", nil, nil, []string{"x"}, []string{"x"}, []string{"x"}, true},
		{"in a class that is not above", []string{"x"}, nil, nil, nil, []string{"x"}, true},
		{"capital letters", []string{"ab"}, []string{"aB"}, []string{"aBb"}, nil, nil, true},
		{"beginning of another", []string{"ab"}, []string{"a"}, []string{"abc"}, nil, nil, true},
	} {
		l := with(class.Class{Name: "A", Vars: e.a}, class.Class{Name: "B", Super: 11, Vars: e.b},
			class.Class{Name: "C", Super: 12, Vars: e.c}, class.Class{Name: "D", Super: 11, Vars: e.d},
			class.Class{Name: "E", Vars: e.e})
		checkValid(t, e.name, l, nil, e.want)
	}
}

// TestCheckVarCount: promise CS1, a class has up to 16 variables, with those of the classes above it.
func TestCheckVarCount(t *testing.T) {
	for a := range 19 {
		for b := range 19 {
			for c := range 19 {
				l := with(class.Class{Name: "A", Vars: texts("a", 0, a)}, class.Class{Name: "B", Super: 11, Vars: texts("b", 0, b)},
					class.Class{Name: "C", Super: 12, Vars: texts("c", 0, c)})
				checkValid(t, "one below another", l, nil, a+b+c <= 16)
				l[13].Super = 11
				checkValid(t, "two below one", l, nil, a+b <= 16 && a+c <= 16)
				l[12].Super, l[13].Super = 0, 0
				checkValid(t, "side by side", l, nil, a <= 16 && b <= 16 && c <= 16)
			}
		}
	}
	deep := plain(64)
	for c := 11; c < 64; c++ {
		deep[c].Super = c - 1
		if c == 11 {
			deep[c].Super = 0
		}
		if c >= 48 {
			deep[c].Vars = []string{"v" + strconv.Itoa(c)}
		}
	}
	checkValid(t, "one in each of 16 classes", deep, nil, true)
	deep[20].Vars = []string{"first"}
	checkValid(t, "one in each of 17 classes", deep, nil, false)
	checkValid(t, "many", with(class.Class{Name: "A", Vars: texts("v", 0, 1<<16)}), nil, false)
}

// TestCheckMethodCount: promise CS1, up to 256 methods, in one class or in several.
func TestCheckMethodCount(t *testing.T) {
	for _, n := range []int{0, 1, 2, 255, 256, 257, 258, 512, 1000, 1 << 16} {
		l := plain(13)
		l[12].Methods = numbers(0, n)
		checkValid(t, "methods of one class", l, simples(n), n <= 256)
		l = plain(64)
		for i := range n {
			k := &l[i%64]
			k.Methods = append(k.Methods, i)
		}
		checkValid(t, "methods of all classes", l, simples(n), n <= 256)
	}
}

// TestCheckListed: promise CS1, each method is listed exactly once, in exactly one class, in any order.
func TestCheckListed(t *testing.T) {
	for _, e := range []struct {
		name       string
		a, b, last []int // the methods of Object, of Semaphore and of the last class
		want       bool
	}{
		{"in one class", []int{0, 1, 2}, nil, nil, true},
		{"in another order", nil, []int{2, 0, 1}, nil, true},
		{"in all", []int{1}, []int{2}, []int{0}, true},
		{"none", nil, nil, nil, false},
		{"the first one is missing", []int{1, 2}, nil, nil, false},
		{"the last one is missing", nil, nil, []int{0, 1}, false},
		{"the middle one is missing", []int{0}, []int{2}, nil, false},
		{"twice in one class", []int{0, 1, 2, 0}, nil, nil, false},
		{"twice side by side", nil, nil, []int{0, 1, 2, 2}, false},
		{"twice, and one missing", []int{0, 1, 1}, nil, nil, false},
		{"in two classes", []int{0, 1}, nil, []int{1, 2}, false},
		{"in two classes, and one missing", []int{0, 1}, nil, []int{1}, false},
		{"all in two classes", []int{0, 1, 2}, []int{0, 1, 2}, nil, false},
		{"in three classes", []int{0}, []int{0}, []int{0}, false},
		{"one too many", []int{0, 1, 2}, nil, []int{3}, false},
		{"one too many, and one missing", []int{0}, []int{1}, []int{3}, false},
		{"negative", []int{0, 1, 2}, []int{-1}, nil, false},
		{"negative instead", []int{0, 1, -1}, nil, nil, false},
		{"the least instead", nil, []int{math.MinInt, 1, 2}, nil, false},
		{"the greatest instead", nil, []int{0, 1, math.MaxInt}, nil, false},
		{"beyond 32 bits", []int{1 << 32, 1, 2}, nil, nil, false},
	} {
		l := plain(12)
		l[0].Methods, l[10].Methods, l[11].Methods = e.a, e.b, e.last
		checkValid(t, e.name, l, simples(3), e.want)
	}
	l := plain(12)
	for _, i := range edges() {
		l[11].Methods = []int{i}
		checkValid(t, "the only one", l, simples(1), i == 0)
		checkValid(t, "no methods", l, nil, false)
	}
}

// TestCheckSelectors: promise CS1, no two methods of a class have the same selector; those of other classes may.
func TestCheckSelectors(t *testing.T) {
	for c := range 14 {
		for d := range 14 {
			l := plain(14)
			l[12].Super, l[13].Super = 11, 12
			l[c].Methods = []int{0}
			l[d].Methods = append(l[d].Methods, 1)
			checkValid(t, "same selector", l, []method.Method{simple("a"), simple("a")}, c != d)
			checkValid(t, "different selectors", l, []method.Method{simple("a"), simple("aa")}, true)
		}
	}
	l := plain(12)
	l[11].Methods = []int{3, 1, 2, 0}
	for _, e := range []struct {
		selectors []string
		want      bool
	}{
		{[]string{"a", "b", "c", "d"}, true}, {[]string{"a", "b", "c", "a"}, false}, {[]string{"a", "b", "a", "c"}, false},
		{[]string{"b", "a", "c", "a"}, false}, {[]string{"a", "A", "c", "d"}, false}, {[]string{"a", "aA", "aa", "d"}, true},
	} {
		var m []method.Method
		for _, sel := range e.selectors {
			m = append(m, simple(sel))
		}
		checkValid(t, "selectors", l, m, e.want)
	}
}

// TestCheckMethodVars: promise CS1, a method is valid for the number of variables of its class, with those of the
// classes above it, and of no other.
func TestCheckMethodVars(t *testing.T) {
	l := with(
		class.Class{Name: "A", Vars: []string{"a", "b", "c"}},
		class.Class{Name: "B", Super: 11, Vars: []string{"d", "e"}},
		class.Class{Name: "C", Super: 12},
		class.Class{Name: "D", Super: 11, Vars: texts("d", 0, 13)},
		class.Class{Name: "E", Super: 12, Vars: []string{"f"}},
		class.Class{Name: "F"},
	)
	for c := range l {
		want := map[int]int{11: 3, 12: 5, 13: 5, 14: 16, 15: 6}[c]
		for a := range 20 {
			changed := cloneClasses(l)
			changed[c].Methods = []int{0}
			checkValid(t, "variable", changed, []method.Method{reader("get", a)}, a < want)
			changed[c].Methods = []int{1, 0, 2}
			m := []method.Method{reader("get", a), simple("first"), simple("last")}
			checkValid(t, "variable of one method of three", changed, m, a < want)
		}
	}
}

// TestCheckMethodClasses: promise CS1, a method is valid for the number of classes.
func TestCheckMethodClasses(t *testing.T) {
	for n := 11; n <= 64; n++ {
		for a := range 70 {
			for _, c := range []int{0, 10, n - 1} {
				l := plain(n)
				l[c].Methods = []int{0}
				checkValid(t, "class", l, []method.Method{teller("it", a)}, a < n)
			}
		}
	}
}

// TestCheckMethods: promise CS1, each method is valid, at each place.
func TestCheckMethods(t *testing.T) {
	short, long := simple("foo"), simple("foo")
	short.Parts[0].Code = nil
	long.Parts[0].Code = make([]byte, 513)
	numeral, args := simple("foo"), simple("foo:")
	numeral.Lits = []method.Lit{{K: 0, S: "01"}}
	for _, bad := range []method.Method{{}, {Sel: "foo"}, short, long, numeral, args, simple(""), simple("Foo"), simple("a b")} {
		for at := range 5 {
			l := plain(13)
			l[0].Methods, l[11].Methods, l[12].Methods = []int{4}, []int{2, 0}, []int{3, 1}
			m := simples(5)
			checkValid(t, "valid methods", l, m, true)
			m[at] = bad
			checkValid(t, "one that is not valid", l, m, false)
		}
	}
}

// TestCheckRandom: promise CS1, fixed random classes and methods, valid ones, such with one or more changes, and
// arbitrary ones, against the definition.
func TestCheckRandom(t *testing.T) {
	source := rand.New(rand.NewPCG(10, 3))
	valid := 0
	for range 10000 {
		l, m := randomValid(source)
		checkValid(t, "random", l, m, true)
		for range 5 {
			changed, methods := damaged(source, l, m)
			for range source.IntN(3) {
				changed, methods = damaged(source, changed, methods)
			}
			if checkDefinition(t, changed, methods) {
				valid++
			}
		}
		l, m = randomAny(source)
		checkDefinition(t, l, m)
		checkDefinition(t, with(l...), m)
	}
	if valid < 3000 || valid > 40000 {
		t.Errorf("%d of 50,000 damaged lists are valid", valid)
	}
}
