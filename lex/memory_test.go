package lex_test

import (
	"math/rand/v2"
	"slices"
	"strings"
	"testing"
	"unsafe"

	"colloquy/lex"
)

var spoilt = lex.Word{K: 77, S: "spoilt", At: -77}

// roomy returns a copy of l with so much spare capacity, which is not zero.
func roomy(l []lex.Word, spare int) []lex.Word {
	return append(slices.Clone(l), slices.Repeat([]lex.Word{spoilt}, spare)...)[:len(l)]
}

// whole returns l and its spare capacity.
func whole(l []lex.Word) []lex.Word {
	return l[:cap(l)]
}

func spoil(l []lex.Word) {
	for i := range whole(l) {
		whole(l)[i] = spoilt
	}
}

// lists returns lists of tokens, valid and not valid, and one whose text is too long.
func lists() [][]lex.Word {
	source := rand.New(rand.NewPCG(13, 6))
	all := [][]lex.Word{nil, {}, tokens(), badTokens(), slices.Repeat([]lex.Word{str(1024)}, 64)}
	for _, w := range append(tokens(), badTokens()...) {
		all = append(all, []lex.Word{w}, []lex.Word{randomToken(source), w, randomToken(source)})
	}
	return all
}

// sources returns the texts of tokens, and sources that do not consist of tokens.
func sources() []string {
	all := []string{"", " ", "\"c\"", "_", "x _", "'", "a 'b''c' : d", strings.Repeat("^", 65536), strings.Repeat("^", 65537)}
	for _, w := range tokens() {
		all = append(all, refSource(w), "x "+refSource(w)+" 12 + :a", refSource(w)+" _")
	}
	return all
}

// TestTextKeepsArgument: promise P8 and general rules 3 and 4, Text changes neither its argument, valid or not, nor
// what stands behind it, and returns the same again.
func TestTextKeepsArgument(t *testing.T) {
	for _, list := range lists() {
		for _, spare := range []int{0, 1, 100} {
			l := roomy(list, spare)
			want := slices.Clone(whole(l))
			for range 2 {
				checkTextDefinition(t, l)
			}
			if !slices.Equal(whole(l), want) {
				t.Fatalf("Text changed %v to %v", want, whole(l))
			}
		}
	}
}

// TestTextKeepsNothing: promise P8 and general rules 3 and 4, what becomes of the argument later has no effect, and
// a list that held other tokens before is taken as it is now.
func TestTextKeepsNothing(t *testing.T) {
	var l []lex.Word
	for _, list := range lists() {
		l = append(l[:0], list...)
		first, _ := lex.Text(l)
		want, _ := refText(list)
		spoil(l)
		if first != want {
			t.Fatalf("Text keeps its argument: %q, want %q", shown(first), shown(want))
		}
	}
}

// TestWordsNewResult: promise P8 and general rules 3 and 4, no two results of Words share memory, spare capacity
// included, and what becomes of them has no effect on the next call.
func TestWordsNewResult(t *testing.T) {
	for _, s := range sources() {
		first, _, _ := lex.Words(s)
		second, _, _ := lex.Words(s)
		kept := slices.Clone(second)
		spoil(first)
		if !slices.Equal(second, kept) {
			t.Fatalf("two results of Words(%q) share memory", shown(s))
		}
		checkWordsDefinition(t, s)
	}
}

// overlap reports whether two strings share memory.
func overlap(a, b string) bool {
	if a == "" || b == "" {
		return false
	}
	startA, startB := uintptr(unsafe.Pointer(unsafe.StringData(a))), uintptr(unsafe.Pointer(unsafe.StringData(b)))
	return startA < startB+uintptr(len(b)) && startB < startA+uintptr(len(a))
}

// TestTextsAreNew: promise P8 and general rule 3, the texts of tokens share no memory with the source, nor does a
// source with the texts of its tokens, so that none keeps the other in memory.
func TestTextsAreNew(t *testing.T) {
	for _, s := range sources() {
		l, _, _ := lex.Words(s)
		text, _ := lex.Text(l)
		for _, w := range l {
			if overlap(w.S, s) || overlap(w.S, text) {
				t.Fatalf("a text of %v shares memory with the source %q", w, shown(s))
			}
		}
	}
}

// TestRepeated: promise P8 and general rule 4, the same results whatever was called before.
func TestRepeated(t *testing.T) {
	for range 2 {
		for _, s := range sources() {
			checkWordsDefinition(t, s)
		}
		for _, l := range lists() {
			checkTextDefinition(t, l)
			for _, w := range l {
				checkMayDefinition(t, w)
			}
		}
	}
}
