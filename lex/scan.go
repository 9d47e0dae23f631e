package lex

import "strings"

const (
	quote        = "'"
	commentQuote = `"`
	colon        = ":"
)

// blank returns the size of the white space or comment that s begins with, or 0 if there is none.
func blank(s string) int {
	after, isComment := strings.CutPrefix(s, commentQuote)
	if !isComment {
		return span(s, isWhite)
	}
	comment, _, ends := strings.Cut(after, commentQuote)
	if !ends {
		return 0
	}
	return len(commentQuote) + len(comment) + len(commentQuote)
}

// token returns the token that s begins with and its size in s, or 0 if there is none. Its text is whatever the
// scan extends over, so that it need not be valid.
func token(s string) (Word, int) {
	switch c := s[0]; {
	case isLetter(c):
		return nameOrKey(s)
	case isDigit(c):
		n := span(s, isDigit)
		return Word{K: Num, S: s[:n]}, n
	case isOperator(c):
		n := span(s[:min(len(s), maxBinary)], isOperator)
		return Word{K: Bin, S: s[:n]}, n
	case strings.HasPrefix(s, quote):
		return quoted(s)
	default:
		return argOrMark(s)
	}
}

// nameOrKey returns the Name or Key that s begins with. A `:` that belongs to a `:=` makes no Key.
func nameOrKey(s string) (Word, int) {
	text := name(s)
	after := s[len(text):]
	if strings.HasPrefix(after, colon) && !strings.HasPrefix(after, marks[Assign]) {
		return Word{K: Key, S: text}, len(text) + len(colon)
	}
	return Word{K: Name, S: text}, len(text)
}

// quoted returns the Str that s begins with, or 0 if it does not end.
func quoted(s string) (Word, int) {
	var text strings.Builder
	rest := s[len(quote):]
	for {
		piece, after, ends := strings.Cut(rest, quote)
		if !ends {
			return Word{}, 0
		}
		text.WriteString(piece)
		afterSecond, isTwice := strings.CutPrefix(after, quote)
		if !isTwice {
			return Word{K: Str, S: text.String()}, len(s) - len(after)
		}
		text.WriteString(quote)
		rest = afterSecond
	}
}

// argOrMark returns the Arg or the token without a text that s begins with, or 0 if there is none.
func argOrMark(s string) (Word, int) {
	if after, ok := strings.CutPrefix(s, colon); ok && name(after) != "" {
		text := name(after)
		return Word{K: Arg, S: text}, len(colon) + len(text)
	}
	for kind := Assign; kind <= End; kind++ {
		if strings.HasPrefix(s, marks[kind]) {
			return Word{K: uint8(kind)}, len(marks[kind])
		}
	}
	return Word{}, 0
}
