package class

import (
	"slices"
	"strings"

	"colloquy/api"
	"colloquy/method"
)

const (
	maxName = 32 // bytes
	maxVars = 16 // with those of the classes above
)

const (
	capitals = "ABCDEFGHIJKLMNOPQRSTUVWXYZ"
	smalls   = "abcdefghijklmnopqrstuvwxyz"
	digits   = "0123456789"
)

// Check returns an error unless the classes are valid together with the methods.
func Check(l []Class, m []method.Method) error {
	if !areClasses(l) || !areListed(l, m) {
		return api.ErrCode
	}
	for c := range l {
		if !areMethods(l, m, c) {
			return api.ErrCode
		}
	}
	return nil
}

// areClasses reports whether the classes are valid, but for what concerns methods.
func areClasses(l []Class) bool {
	first := First()
	if !within(len(l), len(first), api.MaxClasses) || !slices.EqualFunc(l[:len(first)], first, Class.isLike) {
		return false
	}
	var names []string
	for c, k := range l {
		if c >= len(first) && !k.isNew(c) || !areVars(Names(l, c)) {
			return false
		}
		names = append(names, k.Name)
	}
	return areDistinct(names)
}

// isLike reports whether a class is the same as a built-in one, but for its methods.
func (k Class) isLike(first Class) bool {
	return k.Name == first.Name && k.Super == first.Super && len(k.Vars) == 0
}

// isNew reports whether k may be a class with the number c that is not built in.
func (k Class) isNew(c int) bool {
	return isName(k.Name, capitals) && (k.Super == api.Object || within(k.Super, api.User, c-1))
}

// areVars reports whether a class may have these variables, with those of the classes above it.
func areVars(names []string) bool {
	isOther := func(s string) bool { return !isVar(s) }
	return len(names) <= maxVars && !slices.ContainsFunc(names, isOther) && areDistinct(names)
}

func isVar(s string) bool {
	switch s {
	case "self", "super", "nil", "true", "false":
		return false
	}
	return isName(s, smalls)
}

// isName reports whether s begins with one of the letters of first and continues with letters and digits.
func isName(s, first string) bool {
	return within(len(s), 1, maxName) && strings.Contains(first, s[:1]) &&
		strings.Trim(s, capitals+smalls+digits) == ""
}

// areListed reports whether there is a valid number of methods, and whether each of them is listed exactly once.
func areListed(l []Class, m []method.Method) bool {
	var numbers []int
	for _, k := range l {
		numbers = append(numbers, k.Methods...)
	}
	isOther := func(i int) bool { return !isIndex(i, m) }
	return len(m) <= api.MaxMethods && len(numbers) == len(m) && !slices.ContainsFunc(numbers, isOther) &&
		areDistinct(numbers)
}

// areMethods reports whether the methods of class c are valid and have different selectors.
func areMethods(l []Class, m []method.Method, c int) bool {
	vars := Count(l, c)
	var selectors []string
	for _, i := range l[c].Methods {
		if method.Check(m[i], vars, len(l)) != nil {
			return false
		}
		selectors = append(selectors, m[i].Sel)
	}
	return areDistinct(selectors)
}

// areDistinct reports whether l has no duplicates.
func areDistinct[E comparable](l []E) bool {
	seen := make(map[E]struct{}, len(l))
	for _, e := range l {
		if _, ok := seen[e]; ok {
			return false
		}
		seen[e] = struct{}{}
	}
	return true
}
