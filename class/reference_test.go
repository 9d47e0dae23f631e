package class_test

import (
	"errors"
	"regexp"
	"slices"
	"testing"

	"colloquy/api"
	"colloquy/class"
	"colloquy/method"
)

var (
	classForm = regexp.MustCompile(`^[A-Z][a-zA-Z0-9]*$`)
	varForm   = regexp.MustCompile(`^[a-z][a-zA-Z0-9]*$`)
	wordForm  = regexp.MustCompile(`^(self|super|nil|true|false)$`)
)

// errno returns the number of an error, or 0 if there is none.
func errno(t *testing.T, err error) api.Errno {
	t.Helper()
	var n api.Errno
	if err != nil && !errors.As(err, &n) {
		t.Fatalf("error %v has no number", err)
	}
	return n
}

func builtIn() []string {
	return []string{"Object", "Integer", "LargeInteger", "Undefined", "Boolean", "String", "Array", "Block", "Env",
		"Class", "Semaphore"}
}

// refChain returns the chain of c, upwards.
func refChain(l []class.Class, c int) []int {
	if c < 0 || c >= len(l) {
		return nil
	}
	super := l[c].Super
	if super < 0 || super >= c {
		return []int{c}
	}
	return append([]int{c}, refChain(l, super)...)
}

func refNames(l []class.Class, c int) []string {
	var names []string
	for _, k := range refChain(l, c) {
		names = slices.Concat(l[k].Vars, names)
	}
	return names
}

func refUnder(l []class.Class, c, above int) bool {
	for _, k := range refChain(l, c) {
		if k == above {
			return true
		}
	}
	return false
}

func refFind(l []class.Class, m []method.Method, c int, sel string) (int, bool) {
	for _, k := range refChain(l, c) {
		for _, i := range l[k].Methods {
			if i >= 0 && i < len(m) && m[i].Sel == sel {
				return i, true
			}
		}
	}
	return 0, false
}

func refOf(l []class.Class, name string) (int, bool) {
	for c, k := range l {
		if k.Name == name {
			return c, true
		}
	}
	return 0, false
}

func refOwner(l []class.Class, m int) (int, bool) {
	for c, k := range l {
		for _, i := range k.Methods {
			if i == m {
				return c, true
			}
		}
	}
	return 0, false
}

// refDifferent reports whether no two elements are equal, by comparing all of them.
func refDifferent[E comparable](l []E) bool {
	for i := range l {
		for j := range i {
			if l[i] == l[j] {
				return false
			}
		}
	}
	return true
}

// refClass reports whether class c meets the conditions of a class alone.
func refClass(l []class.Class, c int) bool {
	k := l[c]
	if c == 0 {
		return k.Name == "Object" && k.Super == -1 && len(k.Vars) == 0
	}
	if c < 11 {
		return k.Name == builtIn()[c] && k.Super == 0 && len(k.Vars) == 0
	}
	isName := len(k.Name) <= 32 && classForm.MatchString(k.Name)
	return isName && k.Super >= 0 && k.Super < c && (k.Super < 1 || k.Super > 10)
}

// refVars reports whether the variables of class c and of those above it meet their conditions.
func refVars(l []class.Class, c int) bool {
	names := refNames(l, c)
	for _, s := range names {
		if len(s) > 32 || !varForm.MatchString(s) || wordForm.MatchString(s) {
			return false
		}
	}
	return len(names) <= 16 && refDifferent(names)
}

// refMethods reports whether the methods of class c are indices of valid methods with different selectors.
func refMethods(l []class.Class, m []method.Method, c int) bool {
	var selectors []string
	for _, i := range l[c].Methods {
		if i < 0 || i >= len(m) || method.Check(m[i], len(refNames(l, c)), len(l)) != nil {
			return false
		}
		selectors = append(selectors, m[i].Sel)
	}
	return refDifferent(selectors)
}

// refListings returns how often a method is listed.
func refListings(l []class.Class, m int) int {
	n := 0
	for _, k := range l {
		for _, i := range k.Methods {
			if i == m {
				n++
			}
		}
	}
	return n
}

func refValid(l []class.Class, m []method.Method) bool {
	if len(l) < 11 || len(l) > 64 || len(m) > 256 {
		return false
	}
	var names []string
	for c, k := range l {
		if !refClass(l, c) || !refVars(l, c) || !refMethods(l, m, c) {
			return false
		}
		names = append(names, k.Name)
	}
	for i := range m {
		if refListings(l, i) != 1 {
			return false
		}
	}
	return refDifferent(names)
}
