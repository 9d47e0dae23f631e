package lex_test

import (
	"strings"
	"testing"

	"colloquy/api"
	"colloquy/lex"
)

// TestWordsShort: promise LX2, all sources of one and two bytes.
func TestWordsShort(t *testing.T) {
	count := 0
	for c := range 256 {
		for _, s := range append(twoBytes(byte(c)), string([]byte{byte(c)})) {
			if checkWordsDefinition(t, s) {
				count++
			}
		}
	}
	// A letter, a digit, an operator, white space or a mark of one byte; two of them side by side, but for a 0 in
	// front of a digit; and `:=`, an Arg, a Key, an empty Str and an empty comment.
	one := 52 + 10 + 10 + 4 + 10
	if want := one + one*one - 10 + 1 + 52 + 52 + 2; count != want {
		t.Errorf("%d sources of one and two bytes consist of tokens, want %d", count, want)
	}
}

// everySource calls visit with all texts of up to so many pieces.
func everySource(pieces []string, most int, visit func(s string)) {
	var add func(s string, left int)
	add = func(s string, left int) {
		visit(s)
		if left == 0 {
			return
		}
		for _, piece := range pieces {
			add(s+piece, left-1)
		}
	}
	add("", most)
}

// TestWordsPieces: promise LX2, all sources of up to so many of a few pieces that act on each other.
func TestWordsPieces(t *testing.T) {
	for _, e := range []struct {
		pieces []string
		most   int
	}{
		{[]string{"a", ":", "="}, 8},
		{[]string{"'", "a"}, 12},
		{[]string{"'", "\"", "\n"}, 8},
		{[]string{"'", "\"", "a", ":", "=", "0", " "}, 5},
		{[]string{"Z", "z", "9", "0", ":", "-", ".", "\x00"}, 4},
		{[]string{"+", "-", "=", ":", "<", ",", "|", "~"}, 4},
		{[]string{"at:", "x", ":=", ":", "'it''s'", "''", "\"c\"", "10", "0", "==", "^", "[", " ", ":y", "_", "\xff", "é"}, 3},
	} {
		everySource(e.pieces, e.most, func(s string) { checkWordsDefinition(t, s) })
	}
}

// TestWordsBytes: promise LX2, each byte at each place of some sources, in addition to a byte or instead of it.
func TestWordsBytes(t *testing.T) {
	for _, s := range []string{"ab", "12", "++", ":=", "''", "'s'", "\"c\"", "at:put:", ":a|", "a:=1", "a 1", "x : y", "[]", "a.b"} {
		for i := range len(s) + 1 {
			for c := range 256 {
				b := string([]byte{byte(c)})
				checkWordsDefinition(t, s[:i]+b+s[i:])
				checkWordsDefinition(t, s[:i]+b+s[min(i+1, len(s)):])
			}
		}
	}
}

// TestWordsAnyBytes: promise LX2, a Str and a comment hold all bytes but the one that ends them.
func TestWordsAnyBytes(t *testing.T) {
	for c := range 256 {
		b := string([]byte{byte(c)})
		if b != "'" {
			checkWords(t, "'"+b+"'", []lex.Word{{K: lex.Str, S: b}})
			checkWords(t, "x '"+b+b+"' y", []lex.Word{{K: lex.Name, S: "x"}, {K: lex.Str, S: b + b, At: 2}, {K: lex.Name, S: "y", At: 7}})
		}
		if b != "\"" {
			checkWords(t, "\""+b+"\"", nil)
			checkWords(t, "x\""+b+b+"\"y", []lex.Word{{K: lex.Name, S: "x"}, {K: lex.Name, S: "y", At: 5}})
		}
	}
}

// TestWordsNames: promise LX2, names of all lengths up to beyond the limit.
func TestWordsNames(t *testing.T) {
	for n := 1; n < 140; n++ {
		text := strings.Repeat("aZ09", n)[:n]
		if n <= 64 {
			checkWords(t, text, []lex.Word{{K: lex.Name, S: text}})
			checkWords(t, " "+text+":", []lex.Word{{K: lex.Key, S: text, At: 1}})
			checkWords(t, " :"+text, []lex.Word{{K: lex.Arg, S: text, At: 1}})
			checkWords(t, text+":=", []lex.Word{{K: lex.Name, S: text}, {K: lex.Assign, At: n}})
			continue
		}
		checkWordsError(t, text, 0, api.ErrSyntax)
		checkWordsError(t, " "+text+":", 1, api.ErrSyntax)
		checkWordsError(t, " :"+text, 1, api.ErrSyntax)
		checkWordsError(t, text+":=", 0, api.ErrSyntax)
	}
}

// TestWordsNumbers: promise LX2, numbers of all lengths up to beyond the limit.
func TestWordsNumbers(t *testing.T) {
	for n := 1; n < 1500; n++ {
		number := strings.Repeat("1203", n)[:n]
		if n <= 700 {
			checkWords(t, "-"+number, []lex.Word{{K: lex.Bin, S: "-"}, {K: lex.Num, S: number, At: 1}})
		} else {
			checkWordsError(t, "-"+number, 1, api.ErrSyntax)
		}
		checkWordsError(t, "-0"+number, 1, api.ErrSyntax)
	}
}

// TestWordsStrs: promise LX2, Strs of all lengths up to beyond the limit; each quotation mark in it counts once.
func TestWordsStrs(t *testing.T) {
	for n := range 1100 {
		text, quotes := strings.Repeat("s", n), strings.Repeat("'", n)
		if n <= 1024 {
			checkWords(t, "^'"+text+"'", []lex.Word{{K: lex.Up}, {K: lex.Str, S: text, At: 1}})
			checkWords(t, "^'"+quotes+quotes+"'", []lex.Word{{K: lex.Up}, {K: lex.Str, S: quotes, At: 1}})
		} else {
			checkWordsError(t, "^'"+text+"'", 1, api.ErrSyntax)
			checkWordsError(t, "^'"+quotes+quotes+"'", 1, api.ErrSyntax)
		}
		checkWordsError(t, "^'"+text, 1, api.ErrSyntax)
		checkWordsError(t, "^'"+quotes+quotes, 1, api.ErrSyntax)
	}
}

// TestWordsComments: promise LX2, a comment has no limit of its own.
func TestWordsComments(t *testing.T) {
	for _, n := range []int{0, 1, 2, 63, 64, 65, 1023, 1024, 1025, 1026, 65533} {
		checkWords(t, "\""+strings.Repeat("c", n)+"\"x", []lex.Word{{K: lex.Name, S: "x", At: n + 2}})
		checkWords(t, "\""+strings.Repeat("'", n)+"\"x", []lex.Word{{K: lex.Name, S: "x", At: n + 2}})
		checkWordsError(t, "x\""+strings.Repeat("c", n), 1, api.ErrSyntax)
	}
}

// many returns a token n times, so many bytes from each other.
func many(w lex.Word, n, distance int) []lex.Word {
	l := make([]lex.Word, n)
	for i := range l {
		l[i] = w
		l[i].At = i * distance
	}
	return l
}

// TestWordsLongSources: promise LX2, sources of up to 65,536 bytes, and longer ones, whatever they consist of.
func TestWordsLongSources(t *testing.T) {
	for _, n := range []int{65534, 65535, 65536} {
		checkWords(t, strings.Repeat(" ", n), nil)
		checkWords(t, "\""+strings.Repeat("c", n-2)+"\"", nil)
		checkWords(t, strings.Repeat(" ", n-1)+"x", []lex.Word{{K: lex.Name, S: "x", At: n - 1}})
		checkWordsError(t, strings.Repeat(" ", n-1)+"_", n-1, api.ErrSyntax)
		checkWordsError(t, strings.Repeat(" ", n-1)+"\"", n-1, api.ErrSyntax)
		checkWordsError(t, strings.Repeat("x", n), 0, api.ErrSyntax)
		checkWordsError(t, strings.Repeat("'", n), 0, api.ErrSyntax)
		checkWords(t, strings.Repeat("^", n), many(lex.Word{K: lex.Up}, n, 1))
		checkWords(t, strings.Repeat("++", n/2), many(lex.Word{K: lex.Bin, S: "++"}, n/2, 2))
		checkWords(t, strings.Repeat("a:", n/2), many(lex.Word{K: lex.Key, S: "a"}, n/2, 2))
		checkWords(t, strings.Repeat("''\t", n/3), many(lex.Word{K: lex.Str}, n/3, 3))
	}
	for _, n := range []int{65537, 65538, 70000, 1 << 17, 1 << 20} {
		for _, piece := range []string{" ", "x", "^", "_", "'", "\"", "0", ":", "\xff", "é"} {
			checkWordsError(t, strings.Repeat(piece, n)[:n], 0, api.ErrLong)
		}
		checkWordsError(t, "_"+strings.Repeat(" ", n-1), 0, api.ErrLong)
		checkWordsError(t, strings.Repeat(" ", n-1)+"_", 0, api.ErrLong)
	}
}

// TestWordsCut: promise LX2, a source that is cut at each place.
func TestWordsCut(t *testing.T) {
	s := "class Account < Object { |owner balance| \"the first one\"\n\tat: i put: x { ^[ :y :z | a := y <= -10. " +
		"self at: 'it''s' put: (b c), ''; yourself ] value: 0 value: 'd' } }\r\n"
	for i := range len(s) + 1 {
		checkWordsDefinition(t, s[:i])
		checkWordsDefinition(t, s[i:])
	}
	if !checkWordsDefinition(t, s) {
		t.Errorf("%q does not consist of tokens", s)
	}
}
