package method

import "strings"

const (
	maxSelector   = 64 // bytes
	maxBinary     = 2  // characters
	maxKeywords   = 8
	binaryLetters = `+-*/\<>=~,`
)

// Arity returns the number of arguments that a selector takes, or false if sel is no selector.
func Arity(sel string) (int, bool) {
	if len(sel) > maxSelector {
		return 0, false
	}
	names, hasColon := strings.CutSuffix(sel, ":")
	switch {
	case hasColon:
		return keywords(strings.Split(names, ":"))
	case isBinary(sel):
		return 1, true
	default:
		return 0, isName(sel)
	}
}

// keywords returns the number of names, or false if they are too many or not all of them are names.
func keywords(names []string) (int, bool) {
	if len(names) > maxKeywords {
		return 0, false
	}
	for _, name := range names {
		if !isName(name) {
			return 0, false
		}
	}
	return len(names), true
}

func isBinary(s string) bool {
	isOther := func(r rune) bool { return !strings.ContainsRune(binaryLetters, r) }
	return within(len(s), 1, maxBinary) && !strings.ContainsFunc(s, isOther)
}

func isName(s string) bool {
	isOther := func(r rune) bool { return !isSmall(r) && !isCapital(r) && !isDigit(r) }
	return s != "" && isSmall(rune(s[0])) && !strings.ContainsFunc(s, isOther)
}

func isSmall(r rune) bool {
	return 'a' <= r && r <= 'z'
}

func isCapital(r rune) bool {
	return 'A' <= r && r <= 'Z'
}

func isDigit(r rune) bool {
	return '0' <= r && r <= '9'
}
