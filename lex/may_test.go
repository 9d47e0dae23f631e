package lex_test

import (
	"strings"
	"testing"

	"colloquy/lex"
)

// TestKinds: section Terms, the constants with their numbers, one by one.
func TestKinds(t *testing.T) {
	list := []int{lex.Name, lex.Key, lex.Bin, lex.Num, lex.Str, lex.Arg, lex.Assign, lex.Up, lex.Semi, lex.Dot, lex.Open,
		lex.Close, lex.Left, lex.Right, lex.Bar, lex.Begin, lex.End}
	if len(list) != kinds {
		t.Fatalf("%d kinds", len(list))
	}
	for number, kind := range list {
		if kind != number {
			t.Errorf("the kind %d is %d", number, kind)
		}
	}
}

// TestMay: promise LX1, tokens of each kind, with all offsets that they may have and some that they may not.
func TestMay(t *testing.T) {
	for _, w := range tokens() {
		for _, w.At = range offsets {
			checkMay(t, w, true)
			checkMayDefinition(t, w)
		}
		for _, w.At = range badOffsets {
			checkMay(t, w, false)
			checkMayDefinition(t, w)
		}
	}
}

// TestMayNot: promise LX1, tokens that are not valid, whatever their offset is.
func TestMayNot(t *testing.T) {
	for _, w := range badTokens() {
		for _, w.At = range append(offsets, badOffsets...) {
			checkMay(t, w, false)
			checkMayDefinition(t, w)
		}
	}
	checkMay(t, lex.Word{}, false)
}

// TestMayKinds: promise LX1, each text of another token with all 256 kinds.
func TestMayKinds(t *testing.T) {
	for _, w := range append(tokens(), badTokens()...) {
		for kind := range 256 {
			w.K = uint8(kind)
			checkMayDefinition(t, w)
		}
	}
}

// TestMayShort: promise LX1, all texts of one and two bytes, in tokens of all kinds.
func TestMayShort(t *testing.T) {
	counts := make([]int, kinds+1)
	for kind := range uint8(kinds + 1) {
		for c := range 256 {
			one := string([]byte{byte(c)})
			for _, s := range append(twoBytes(byte(c)), one) {
				if checkMayDefinition(t, lex.Word{K: kind, S: s}) {
					counts[kind]++
				}
			}
		}
	}
	names := 52 + 52*62
	for kind, want := range []int{names, names, 110, 10 + 90, 256 + 65536, names, 0, 0, 0, 0, 0, 0, 0, 0, 0, 0, 0, 0} {
		if counts[kind] != want {
			t.Errorf("%d texts of one and two bytes are allowed in a token of kind %d, want %d", counts[kind], kind, want)
		}
	}
}

func twoBytes(first byte) []string {
	var list []string
	for c := range 256 {
		list = append(list, string([]byte{first, byte(c)}))
	}
	return list
}

// TestMayBytes: promise LX1, each byte at each place of texts of some lengths.
func TestMayBytes(t *testing.T) {
	for _, w := range []lex.Word{
		{K: lex.Name, S: strings.Repeat("a", 64)},
		{K: lex.Key, S: "bC3"},
		{K: lex.Arg, S: "Value9x"},
		{K: lex.Num, S: "123456789"},
		{K: lex.Str, S: "it's"},
		{K: lex.Bin, S: "<="},
	} {
		for i := range len(w.S) {
			for c := range 256 {
				changed := w
				changed.S = w.S[:i] + string([]byte{byte(c)}) + w.S[i+1:]
				checkMayDefinition(t, changed)
			}
		}
	}
}

// TestMayLengths: promise LX1, texts of all lengths up to beyond the limit of their kind.
func TestMayLengths(t *testing.T) {
	for n := range 1100 {
		for kind := range uint8(kinds + 1) {
			for _, c := range []string{"x", "7", "+", "'", "0"} {
				checkMayDefinition(t, lex.Word{K: kind, S: strings.Repeat(c, n)})
			}
		}
		for _, kind := range []uint8{lex.Name, lex.Key, lex.Arg} {
			checkMay(t, lex.Word{K: kind, S: strings.Repeat("n", n)}, 1 <= n && n <= 64)
		}
		checkMay(t, lex.Word{K: lex.Bin, S: strings.Repeat("-", n)}, 1 <= n && n <= 2)
		checkMay(t, lex.Word{K: lex.Num, S: strings.Repeat("8", n)}, 1 <= n && n <= 700)
		checkMay(t, lex.Word{K: lex.Num, S: strings.Repeat("0", n)}, n == 1)
		checkMay(t, lex.Word{K: lex.Str, S: strings.Repeat("'", n)}, n <= 1024)
		checkMay(t, lex.Word{K: lex.End, S: strings.Repeat("}", n)}, n == 0)
	}
}
