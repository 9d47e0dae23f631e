package lex_test

import (
	"math/rand/v2"
	"strings"
	"testing"

	"colloquy/lex"
)

// TestRandomTokens: promises LX3, LX4 and P5, fixed random tokens, of which sometimes one is not valid.
func TestRandomTokens(t *testing.T) {
	source := rand.New(rand.NewPCG(13, 1))
	bad := badTokens()
	for range 20000 {
		l := make([]lex.Word, source.IntN(12))
		for i := range l {
			l[i] = randomToken(source)
		}
		if !checkTextDefinition(t, l) {
			t.Fatalf("%v has no text", l)
		}
		if len(l) > 0 && source.IntN(4) == 0 {
			l[source.IntN(len(l))] = bad[source.IntN(len(bad))]
			if checkTextDefinition(t, l) {
				t.Fatalf("%v has a text", l)
			}
		}
	}
}

// TestRandomMany: promises LX3, LX4 and P5, fixed random tokens whose text has about 65,536 bytes.
func TestRandomMany(t *testing.T) {
	source := rand.New(rand.NewPCG(13, 2))
	count := 0
	for range 30 {
		l := make([]lex.Word, 10200+source.IntN(400))
		for i := range l {
			l[i] = randomToken(source)
		}
		if checkTextDefinition(t, l) {
			count++
		}
	}
	if count == 0 || count == 30 {
		t.Errorf("%d of 30 lists have a text", count)
	}
}

// TestRandomSources: promises LX2 and LX4, fixed random tokens with white space and comments between them, intact
// and damaged. What Words returns is valid, and has a text of the same tokens.
func TestRandomSources(t *testing.T) {
	source := rand.New(rand.NewPCG(13, 3))
	intact := 0
	for range 20000 {
		s := randomGap(source)
		for range source.IntN(12) {
			s += refSource(randomToken(source)) + randomGap(source)
		}
		for range source.IntN(3) {
			if checkWordsDefinition(t, s) {
				intact++
				checkAgain(t, s)
			}
			s = damaged(source, s)
		}
		checkWordsDefinition(t, s)
	}
	if intact < 1000 {
		t.Errorf("only %d sources consist of tokens", intact)
	}
}

// checkAgain checks that the tokens of s are valid and that they are those of their text.
func checkAgain(t *testing.T, s string) {
	t.Helper()
	l, _, err := lex.Words(s)
	if err != nil {
		t.Fatalf("Words(%q): %v", shown(s), err)
	}
	for _, w := range l {
		checkMay(t, w, true)
	}
	text, n := refText(l)
	if n == 0 {
		checkText(t, l, text)
		checkWords(t, text, placed(l))
	}
}

// TestRandomGaps: promise LX2, tokens with much white space and many comments between them are those of their
// text, but for the offsets.
func TestRandomGaps(t *testing.T) {
	source := rand.New(rand.NewPCG(13, 4))
	for range 3000 {
		var want []lex.Word
		var b strings.Builder
		for range 1 + source.IntN(20) {
			b.WriteString(randomGap(source))
			b.WriteString([]string{" ", "\t", "\n", "\r", "\"\"", "\":='\""}[source.IntN(6)])
			w := randomToken(source)
			w.At = b.Len()
			want = append(want, w)
			b.WriteString(refSource(w))
		}
		checkWords(t, b.String(), want)
	}
}

// TestRandomBytes: promises LX2 and P8, fixed random bytes of a few alphabets.
func TestRandomBytes(t *testing.T) {
	source := rand.New(rand.NewPCG(13, 5))
	alphabets := []string{allBytes(), "'\"", "':", "ab:=0 ", letters + digits, operators + ":=", whites + "\"a", "'a ", ":=^;.()[]|{}",
		letters + digits + operators + whites + ":=^;.()[]|{}'\""}
	for range 4000 {
		for _, alphabet := range alphabets {
			checkWordsDefinition(t, from(source, alphabet, source.IntN(40)))
		}
	}
}
