package class_test

import (
	"math/rand/v2"
	"reflect"
	"slices"
	"testing"

	"colloquy/class"
	"colloquy/method"
)

// whole returns l and its spare capacity.
func whole[E any](l []E) []E {
	return l[:cap(l)]
}

func withSpare[E any](l []E, spare int, filler E) []E {
	return append(slices.Clone(l), slices.Repeat([]E{filler}, spare)...)[:len(l)]
}

// roomyClasses returns a copy of l each of whose slices has so much spare capacity, which is not zero.
func roomyClasses(l []class.Class, spare int) []class.Class {
	l = cloneClasses(l)
	for c, k := range l {
		l[c].Vars, l[c].Methods = withSpare(k.Vars, spare, "spare"), withSpare(k.Methods, spare, 99)
	}
	return withSpare(l, spare, class.Class{Name: "Spare", Super: 98, Vars: []string{"spare"}, Methods: []int{97}})
}

// roomyMethods does the same for methods.
func roomyMethods(m []method.Method, spare int) []method.Method {
	m = cloneMethods(m)
	for i, e := range m {
		m[i].Lits = withSpare(e.Lits, spare, method.Lit{K: 96, S: "spare"})
		for p, part := range e.Parts {
			m[i].Parts[p].Code = withSpare(part.Code, spare, 0xa5)
		}
		m[i].Parts = withSpare(m[i].Parts, spare, method.Part{Outer: 95, Code: []byte{1}})
	}
	return withSpare(m, spare, method.Method{Sel: "spare", Lits: []method.Lit{{}}, Parts: []method.Part{{}}})
}

// wholeClasses returns a copy of classes with all that stands behind their slices.
func wholeClasses(l []class.Class) []class.Class {
	l = slices.Clone(whole(l))
	for c, k := range l {
		l[c].Vars, l[c].Methods = whole(k.Vars), whole(k.Methods)
	}
	return cloneClasses(l)
}

// wholeMethods does the same for methods.
func wholeMethods(m []method.Method) []method.Method {
	m = slices.Clone(whole(m))
	for i, e := range m {
		m[i].Lits, m[i].Parts = whole(e.Lits), slices.Clone(whole(e.Parts))
		for p, part := range m[i].Parts {
			m[i].Parts[p].Code = whole(part.Code)
		}
	}
	return cloneMethods(m)
}

// lists calls a function for valid classes and methods, and for others.
func lists(f func(l []class.Class, m []method.Method)) {
	source := rand.New(rand.NewPCG(10, 4))
	f(nil, nil)
	f(sample())
	for range 100 {
		l, m := randomValid(source)
		f(l, m)
		f(damaged(source, l, m))
		f(randomAny(source))
	}
}

// TestKeepsArguments: promise P8 and general rules 1, 3 and 4, no function changes the lists that it is given,
// valid or not, nor what stands behind them, and each returns the same again.
func TestKeepsArguments(t *testing.T) {
	lists(func(l []class.Class, m []method.Method) {
		for _, spare := range []int{0, 1, 9} {
			givenL, givenM := roomyClasses(l, spare), roomyMethods(m, spare)
			wantL, wantM := wholeClasses(givenL), wholeMethods(givenM)
			for range 2 {
				checkDefinition(t, givenL, givenM)
				checkLookup(t, givenL, givenM)
			}
			if !reflect.DeepEqual(wholeClasses(givenL), wantL) {
				t.Fatalf("a function changed %v to %v", wantL, wholeClasses(givenL))
			}
			if !reflect.DeepEqual(wholeMethods(givenM), wantM) {
				t.Fatalf("a function changed %v to %v", wantM, wholeMethods(givenM))
			}
		}
	})
}

// TestNamesNewResult: promise P8 and general rules 3 and 4, no two results of Names share memory, nor do a result
// and the classes, spare capacity included.
func TestNamesNewResult(t *testing.T) {
	lists(func(l []class.Class, m []method.Method) {
		given := roomyClasses(l, 3)
		want := wholeClasses(given)
		for c := range l {
			first, second := class.Names(given, c), class.Names(given, c)
			for i := range whole(first) {
				whole(first)[i] = "spoilt"
			}
			if !slices.Equal(second, refNames(l, c)) {
				t.Fatalf("two results share memory: %q, want %q", second, refNames(l, c))
			}
			if !reflect.DeepEqual(wholeClasses(given), want) {
				t.Fatalf("a result shares memory with the classes: %v, want %v", wholeClasses(given), want)
			}
			for i := range given {
				clear(whole(given[i].Vars))
			}
			if !slices.Equal(second, refNames(l, c)) {
				t.Fatalf("Names keeps its argument: %q, want %q", second, refNames(l, c))
			}
			given = roomyClasses(l, 3)
		}
	})
}

// TestFirstNewResult: promise P8 and general rules 3 and 4, no two results of First share memory, nor do two
// slices of one result, spare capacity included.
func TestFirstNewResult(t *testing.T) {
	want := with()
	first, second := class.First(), class.First()
	for c := range first {
		first[c].Vars = append(first[c].Vars, "v"+want[c].Name)
		first[c].Methods = append(first[c].Methods, c)
	}
	for c, k := range first {
		if !slices.Equal(k.Vars, []string{"v" + want[c].Name}) || !slices.Equal(k.Methods, []int{c}) {
			t.Errorf("two slices of class %d share memory with others: %v", c, k)
		}
	}
	for c := range whole(first) {
		whole(first)[c] = class.Class{Name: "Spoilt", Super: 7, Vars: []string{"a"}, Methods: []int{1}}
	}
	for _, l := range [][]class.Class{second, class.First()} {
		if len(l) != len(want) {
			t.Fatalf("First() is %v", l)
		}
		for c, k := range l {
			if k.Name != want[c].Name || k.Super != want[c].Super || len(k.Vars)+len(k.Methods) > 0 {
				t.Errorf("two results share memory: class %d is %v", c, k)
			}
		}
	}
}
