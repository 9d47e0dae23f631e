package lex_test

import (
	"math"
	"math/rand/v2"
	"strings"

	"colloquy/lex"
)

// kinds is the number of the kinds of tokens.
const kinds = 17

const (
	letters   = "abcdefghijklmnopqrstuvwxyzABCDEFGHIJKLMNOPQRSTUVWXYZ"
	digits    = "0123456789"
	operators = `+-*/\<>=~,`
	whites    = " \t\n\r"
)

// offsets holds offsets that a token may have.
var offsets = []int{0, 1, 2, 63, 65535, 65536, 65537, 1 << 31, 1 << 32, math.MaxInt}

// badOffsets holds offsets that a token may not have.
var badOffsets = []int{-1, -2, -64, -1 << 31, -1 << 32, math.MinInt + 1, math.MinInt}

// allBytes returns a text of all bytes.
func allBytes() string {
	var b []byte
	for c := range 256 {
		b = append(b, byte(c))
	}
	return string(b)
}

// tokens returns valid tokens of each kind, and at the limits of them.
func tokens() []lex.Word {
	list := []lex.Word{}
	for _, kind := range []uint8{0, 1, 5} {
		for _, s := range []string{"a", "z", "A", "Z", "a0", "Z9z", "x1y2", "self", "Object", "ifTrue", strings.Repeat("q", 63),
			strings.Repeat("Q", 64), "x" + strings.Repeat("9", 63)} {
			list = append(list, lex.Word{K: kind, S: s})
		}
	}
	for i := range len(operators) {
		list = append(list, lex.Word{K: 2, S: operators[i : i+1]}, lex.Word{K: 2, S: strings.Repeat(operators[i:i+1], 2)})
	}
	for _, s := range []string{"<=", ">=", "~=", "=-", "->", ",+"} {
		list = append(list, lex.Word{K: 2, S: s})
	}
	for _, s := range []string{"0", "1", "9", "10", "1234567890", "90000", strings.Repeat("9", 699), strings.Repeat("1", 700),
		"1" + strings.Repeat("0", 699)} {
		list = append(list, lex.Word{K: 3, S: s})
	}
	for _, s := range []string{"", "'", "''", "it's", "'quoted'", "\"", "x := 1", ":", " ", "\x00", "\n", "\xff", "é", allBytes(),
		strings.Repeat("'", 1023), strings.Repeat("'", 1024), strings.Repeat("s", 1024), strings.Repeat("s'", 512), "a", "12"} {
		list = append(list, lex.Word{K: 4, S: s})
	}
	for kind := uint8(6); kind < kinds; kind++ {
		list = append(list, lex.Word{K: kind})
	}
	return list
}

// badTokens returns tokens none of which is valid.
func badTokens() []lex.Word {
	list := []lex.Word{}
	for _, kind := range []uint8{0, 1, 5} {
		for _, s := range []string{"", "0", "0a", "9z", "_", "_a", "a_", "a b", " a", "a ", "a:", ":a", "a.", "é", "aé", "a\x00", "\x00",
			"+", "'a'", "a\n", strings.Repeat("q", 65), strings.Repeat("q", 66), strings.Repeat("q", 128), strings.Repeat("q", 320)} {
			list = append(list, lex.Word{K: kind, S: s})
		}
	}
	for _, s := range []string{"", "+++", "a", "+a", "a+", "0", "^", "|", ":=", ":", "=:", "+ ", " +", "!", "&", "%", "@", "?", "'", "\"",
		"+\n", "+\xff", "\xff", "--------"} {
		list = append(list, lex.Word{K: 2, S: s})
	}
	for _, s := range []string{"", "00", "01", "007", "0000000", "-1", "+1", "1a", "a1", "1 ", " 1", "1.5", "1_0", "0x1", "1e5", "１", "1\n",
		"0" + strings.Repeat("1", 698), strings.Repeat("1", 701), strings.Repeat("1", 1400), strings.Repeat("0", 700)} {
		list = append(list, lex.Word{K: 3, S: s})
	}
	for _, s := range []string{strings.Repeat("s", 1025), strings.Repeat("'", 1025), strings.Repeat("s", 2048), strings.Repeat("s", 65536)} {
		list = append(list, lex.Word{K: 4, S: s})
	}
	for kind := uint8(6); kind < kinds; kind++ {
		for _, s := range []string{marks[kind], "a", "0", "+", " ", "\x00", "'", strings.Repeat("s", 1025)} {
			list = append(list, lex.Word{K: kind, S: s})
		}
	}
	for kind := kinds; kind < 256; kind++ {
		list = append(list, lex.Word{K: uint8(kind)}, lex.Word{K: uint8(kind), S: "a"}, lex.Word{K: uint8(kind), S: "0"},
			lex.Word{K: uint8(kind), S: "+"})
	}
	return list
}

// from returns so many characters of an alphabet.
func from(source *rand.Rand, alphabet string, n int) string {
	b := make([]byte, n)
	for i := range b {
		b[i] = alphabet[source.IntN(len(alphabet))]
	}
	return string(b)
}

// randomText returns a text that a token of a kind may have.
func randomText(source *rand.Rand, kind uint8) string {
	switch kind {
	case 0, 1, 5:
		return from(source, letters, 1) + from(source, letters+digits, source.IntN(1+source.IntN(maxName)))
	case 2:
		return from(source, operators, 1+source.IntN(2))
	case 3:
		return from(source, digits[1:], 1) + from(source, digits, source.IntN(1+source.IntN(30)))
	case 4:
		alphabet := []string{allBytes(), "'", "'\"", "' \n", letters}[source.IntN(5)]
		return from(source, alphabet, source.IntN(1+source.IntN(40)))
	}
	return ""
}

// randomToken returns a valid token.
func randomToken(source *rand.Rand) lex.Word {
	kind := uint8(source.IntN(kinds))
	return lex.Word{K: kind, S: randomText(source, kind), At: source.IntN(1 << 20)}
}

// randomGap returns white space and comments, or nothing.
func randomGap(source *rand.Rand) string {
	gap := ""
	for range source.IntN(4) {
		switch source.IntN(4) {
		case 0:
			gap += "\"" + strings.ReplaceAll(from(source, allBytes(), source.IntN(10)), "\"", "'") + "\""
		default:
			gap += from(source, whites, 1)
		}
	}
	return gap
}

// damaged returns s with one byte changed, removed or added.
func damaged(source *rand.Rand, s string) string {
	at := source.IntN(len(s) + 1)
	more := from(source, ":=:='\"a0+-(|_\x00\xff "+allBytes(), 1)
	switch source.IntN(3) {
	case 0:
		return s[:at] + more + s[at:]
	case 1:
		return s[:at] + s[min(at+1, len(s)):]
	default:
		return s[:at] + more + s[min(at+1, len(s)):]
	}
}
