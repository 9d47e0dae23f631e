package class_test

import (
	"math"
	"math/rand/v2"
	"slices"
	"strconv"
	"strings"

	"colloquy/class"
	"colloquy/method"
	"colloquy/op"
)

// code returns the encoding of instructions.
func code(l ...op.Op) []byte {
	b, err := op.Encode(l)
	if err != nil {
		panic(err)
	}
	return b
}

// simple returns a valid method without arguments that refers to nothing.
func simple(sel string) method.Method {
	return method.Method{Sel: sel, Parts: []method.Part{{Outer: -1, Code: code(op.Op{Code: op.Me})}}}
}

// simples returns such methods, all with different selectors.
func simples(n int) []method.Method {
	var m []method.Method
	for i := range n {
		m = append(m, simple("m"+strconv.Itoa(i)))
	}
	return m
}

// reader returns a method that answers the variable a, and is valid for more than a variables.
func reader(sel string, a int) method.Method {
	m := simple(sel)
	m.Parts[0].Code = code(op.Op{Code: op.Var, A: a}, op.Op{Code: op.Answer})
	return m
}

// teller returns a method that answers the class a, and is valid for more than a classes.
func teller(sel string, a int) method.Method {
	m := simple(sel)
	m.Parts[0].Code = code(op.Op{Code: op.Class, A: a}, op.Op{Code: op.Answer})
	return m
}

// numbers returns those from lo to less than hi.
func numbers(lo, hi int) []int {
	var l []int
	for n := lo; n < hi; n++ {
		l = append(l, n)
	}
	return l
}

// texts returns a prefix followed by each number from lo to less than hi.
func texts(prefix string, lo, hi int) []string {
	var l []string
	for n := lo; n < hi; n++ {
		l = append(l, prefix+strconv.Itoa(n))
	}
	return l
}

// with returns the built-in classes, followed by others.
func with(others ...class.Class) []class.Class {
	var l []class.Class
	for c, name := range builtIn() {
		l = append(l, class.Class{Name: name, Super: min(c-1, 0)})
	}
	return append(l, others...)
}

// plain returns a valid list of n classes without variables and methods.
func plain(n int) []class.Class {
	l := with()
	for c := len(l); c < n; c++ {
		l = append(l, class.Class{Name: "C" + strconv.Itoa(c)})
	}
	return l[:n]
}

// sample returns valid classes and methods: Account (11) is above Saving (12), which is above Bonus (14); Other
// (13) stands beside them, right below Object.
func sample() ([]class.Class, []method.Method) {
	l := with(
		class.Class{Name: "Account", Vars: []string{"balance", "owner"}, Methods: []int{4, 0}},
		class.Class{Name: "Saving", Super: 11, Vars: []string{"rate"}, Methods: []int{1, 3}},
		class.Class{Name: "Other", Vars: []string{"balance"}, Methods: []int{5}},
		class.Class{Name: "Bonus", Super: 12, Methods: []int{6}},
	)
	l[0].Methods = []int{2, 8}
	l[5].Methods = []int{7}
	m := []method.Method{reader("owner", 1), reader("rate", 2), simple("name"), simple("close"), reader("balance", 0),
		reader("balance", 0), teller("name", 14), simple("size"), simple("close")}
	return l, m
}

// cloneClasses returns a copy of l that shares no memory with it.
func cloneClasses(l []class.Class) []class.Class {
	l = slices.Clone(l)
	for c, k := range l {
		l[c].Vars, l[c].Methods = slices.Clone(k.Vars), slices.Clone(k.Methods)
	}
	return l
}

// cloneMethods returns a copy of m that shares no memory with it.
func cloneMethods(m []method.Method) []method.Method {
	m = slices.Clone(m)
	for i, e := range m {
		m[i].Lits, m[i].Parts = slices.Clone(e.Lits), slices.Clone(e.Parts)
		for p, part := range e.Parts {
			m[i].Parts[p].Code = slices.Clone(part.Code)
		}
	}
	return m
}

// edges returns numbers at and around the limits of all fields.
func edges() []int {
	return slices.Concat([]int{math.MinInt, math.MinInt + 1, -1 << 32, -256, -11}, numbers(-2, 20),
		[]int{62, 63, 64, 65, 255, 256, 257, 1 << 16, 1 << 32, 1<<32 + 11, math.MaxInt - 1, math.MaxInt})
}

const (
	capitals = "ABCDEFGHIJKLMNOPQRSTUVWXYZ"
	smalls   = "abcdefghijklmnopqrstuvwxyz"
)

// names returns names that begin with each of the letters of first, and texts that are no such names, some of
// which begin with one of the letters of other.
func names(first, other string) (good, bad []string) {
	ends := []string{"", "a", "z", "A", "Z", "0", "9", "b9C", strings.Repeat("x", 31), strings.Repeat("Y", 31),
		strings.Repeat("7", 31)}
	notEnds := []string{" ", "\n", "_", "-", ":", "a:", ".", "'", "é", "ß", "\u0661", "\u212a", "\xff", "\x00", "a ",
		" a", "a\n", "\na", "b_c", "bé", "b\xe9c", "b\x00c", "[", "@", "`", "{", "/", strings.Repeat("x", 32),
		strings.Repeat("é", 15), strings.Repeat("x", 255), strings.Repeat("x", 256), strings.Repeat("x", 1<<16)}
	for _, c := range strings.Split(first, "") {
		good = append(good, prefixed(c, ends)...)
		bad = append(bad, prefixed(c, notEnds)...)
	}
	others := strings.Split(other+"0189_ \n:/@[`{#é\u00c9\u0391\u03b1\u017f\u212a\x00\x7f", "")
	for _, c := range append(others, "\x80", "\xe9", "\xff") {
		bad = append(bad, prefixed(c, ends)...)
	}
	return good, append(bad, "")
}

func prefixed(prefix string, l []string) []string {
	var texts []string
	for _, s := range l {
		texts = append(texts, prefix+s)
	}
	return texts
}

func pick[E any](source *rand.Rand, l []E) E {
	return l[source.IntN(len(l))]
}

// randomValid returns valid classes and methods.
func randomValid(source *rand.Rand) ([]class.Class, []method.Method) {
	l := plain(11 + source.IntN(8))
	for c := 11; c < len(l); c++ {
		if c > 11 && source.IntN(3) > 0 {
			l[c].Super = 11 + source.IntN(c-11)
		}
		for _, s := range texts("v", 0, 20) {
			above := refNames(l, c)
			if len(above) < 16 && !slices.Contains(above, s) && source.IntN(5) == 0 {
				l[c].Vars = append(l[c].Vars, s)
			}
		}
	}
	return l, randomMethods(source, l)
}

// randomMethods adds valid methods to the classes and returns them.
func randomMethods(source *rand.Rand, l []class.Class) []method.Method {
	m := make([]method.Method, source.IntN(13))
	for _, i := range source.Perm(len(m)) {
		c := source.IntN(len(l))
		sel := "m" + strconv.Itoa(source.IntN(6))
		for slices.ContainsFunc(l[c].Methods, func(j int) bool { return m[j].Sel == sel }) {
			sel += "x"
		}
		vars := len(refNames(l, c))
		switch {
		case source.IntN(2) == 0 && vars > 0:
			m[i] = reader(sel, source.IntN(vars))
		case source.IntN(2) == 0:
			m[i] = teller(sel, source.IntN(len(l)))
		default:
			m[i] = simple(sel)
		}
		l[c].Methods = append(l[c].Methods, i)
	}
	return m
}

// damaged returns a copy of classes and methods with a change, so that they may be invalid.
func damaged(source *rand.Rand, l []class.Class, m []method.Method) ([]class.Class, []method.Method) {
	l, m = cloneClasses(l), cloneMethods(m)
	if source.IntN(4) == 0 {
		return l, damagedMethods(source, m)
	}
	c := source.IntN(len(l))
	if source.IntN(4) > 0 && len(l) > 11 {
		c = 11 + source.IntN(len(l)-11)
	}
	k := &l[c]
	switch source.IntN(8) {
	case 0:
		k.Name = pick(source, []string{"", "x", "X", "Xy_", "Object", "Semaphore", l[len(l)-1].Name, strings.Repeat("N", 33)})
	case 1:
		k.Super = source.IntN(len(l)+3) - 2
	case 2:
		k.Super = pick(source, edges())
	case 3:
		k.Vars = damagedList(source, k.Vars, append(texts("v", 0, 20), "self", "", "V", "v_", strings.Repeat("v", 33)))
	case 4, 5:
		k.Methods = damagedList(source, k.Methods, append(numbers(-1, len(m)+2), math.MinInt, math.MaxInt))
	case 6:
		j := source.IntN(len(l))
		*k, l[j] = l[j], *k
	case 7:
		return slices.Delete(l, c, c+1), m
	}
	return l, m
}

// damagedList returns l with one element changed, removed, inserted, or exchanged with another.
func damagedList[E any](source *rand.Rand, l, elements []E) []E {
	i := source.IntN(len(l) + 1)
	e := pick(source, elements)
	if i == len(l) || source.IntN(4) == 0 {
		return slices.Insert(l, i, e)
	}
	j := source.IntN(len(l))
	switch source.IntN(3) {
	case 0:
		return slices.Delete(l, i, i+1)
	case 1:
		l[i] = e
	case 2:
		l[i], l[j] = l[j], l[i]
	}
	return l
}

func damagedMethods(source *rand.Rand, m []method.Method) []method.Method {
	elements := append(simples(6), reader("m0", source.IntN(18)), teller("m1", source.IntN(20)), simple("M"), simple("m:"),
		method.Method{}, method.Method{Sel: "m2"})
	return damagedList(source, m, elements)
}

// randomAny returns classes and methods of which any field may break any condition.
func randomAny(source *rand.Rand) ([]class.Class, []method.Method) {
	l := make([]class.Class, source.IntN(16))
	m := make([]method.Method, source.IntN(6))
	for i := range m {
		m[i].Sel = pick(source, []string{"", "a", "b", "c", "not a selector"})
	}
	for c := range l {
		l[c].Name = pick(source, []string{"", "A", "B", "a", "Object"})
		l[c].Super = source.IntN(len(l)+4) - 2
		if source.IntN(2) == 0 {
			l[c].Super = c - 1 - source.IntN(3)
		}
		if source.IntN(20) == 0 {
			l[c].Super = pick(source, edges())
		}
		for range source.IntN(3) {
			l[c].Vars = append(l[c].Vars, pick(source, []string{"", "x", "y", "Z", "self"}))
			l[c].Methods = append(l[c].Methods, source.IntN(len(m)+4)-2)
		}
		if source.IntN(10) == 0 {
			l[c].Methods = append(l[c].Methods, pick(source, edges()), len(m)-1)
		}
	}
	return l, m
}
