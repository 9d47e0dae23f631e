package lex

import "strings"

const (
	maxName   = 64 // bytes
	maxBinary = 2  // characters
	maxDigits = 700
	operators = `+-*/\<>=~,`
	whites    = " \t\n\r"
)

func isName(s string) bool {
	return within(len(s), 1, maxName) && name(s) == s
}

func isBinary(s string) bool {
	return within(len(s), 1, maxBinary) && span(s, isOperator) == len(s)
}

func isNumeral(s string) bool {
	return within(len(s), 1, maxDigits) && span(s, isDigit) == len(s) && (s == "0" || s[0] != '0')
}

// name returns the letter that s begins with and the letters and digits that follow it, or "" if there is
// none.
func name(s string) string {
	if s == "" || !isLetter(s[0]) {
		return ""
	}
	return s[:span(s, isLetterOrDigit)]
}

// span returns the number of bytes at the beginning of s for which is holds.
func span(s string, is func(byte) bool) int {
	for i := range len(s) {
		if !is(s[i]) {
			return i
		}
	}
	return len(s)
}

func isLetter(c byte) bool {
	return 'a' <= c && c <= 'z' || 'A' <= c && c <= 'Z'
}

func isDigit(c byte) bool {
	return '0' <= c && c <= '9'
}

func isLetterOrDigit(c byte) bool {
	return isLetter(c) || isDigit(c)
}

func isOperator(c byte) bool {
	return strings.IndexByte(operators, c) >= 0
}

func isWhite(c byte) bool {
	return strings.IndexByte(whites, c) >= 0
}

func within(n, least, most int) bool {
	return least <= n && n <= most
}
