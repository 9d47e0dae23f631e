package lex_test

import (
	"errors"
	"regexp"
	"slices"
	"strconv"
	"strings"
	"testing"

	"colloquy/api"
	"colloquy/lex"
)

// The limits of the chapter.
const (
	maxName = 64
	maxNum  = 700
	maxStr  = 1024
	maxText = 65536
)

// chapter lists the kinds of tokens without a text as the section Terms of chapter 13 does.
const chapter = "6 Assign :=; 7 Up ^; 8 Semi ;; 9 Dot .; 10 Open (; 11 Close ); 12 Left [; 13 Right ]; 14 Bar |; " +
	"15 Begin {; 16 End }"

var (
	nameForm  = regexp.MustCompile(`^[A-Za-z][A-Za-z0-9]*$`)
	binForm   = regexp.MustCompile(`^[-+*/\\<>=~,]{1,2}$`)
	numForm   = regexp.MustCompile(`^(0|[1-9][0-9]*)$`)
	whiteForm = regexp.MustCompile(`^(?:[\x20\x09\x0a\x0d]|"[^"]*")`)
)

// tokenForms holds how a token of a kind with a text begins a source: the first group is the token, the second one
// its text, as it is in the source. A Key is looked for before a Name.
var tokenForms = []struct {
	kind uint8
	form *regexp.Regexp
}{
	{1, regexp.MustCompile(`^(([A-Za-z][A-Za-z0-9]*):)(?:[^=]|$)`)},
	{0, regexp.MustCompile(`^(([A-Za-z][A-Za-z0-9]*))`)},
	{2, regexp.MustCompile(`^(([-+*/\\<>=~,]{1,2}))`)},
	{3, regexp.MustCompile(`^(([0-9]+))`)},
	{4, regexp.MustCompile(`^('((?:[^']|'')*)')(?:[^']|$)`)},
	{5, regexp.MustCompile(`^(:([A-Za-z][A-Za-z0-9]*))`)},
}

// errno returns the number of an error, or 0 if there is none.
func errno(t *testing.T, err error) api.Errno {
	t.Helper()
	var n api.Errno
	if err != nil && !errors.As(err, &n) {
		t.Fatalf("error %v has no number", err)
	}
	return n
}

// refMarks returns how the tokens without a text are written, by their kinds.
func refMarks() map[uint8]string {
	marks := map[uint8]string{}
	for _, entry := range strings.Split(chapter, "; ") {
		fields := strings.Fields(entry)
		kind, err := strconv.ParseUint(fields[0], 10, 8)
		if err != nil {
			panic(err)
		}
		marks[uint8(kind)] = fields[2]
	}
	return marks
}

var marks = refMarks()

func refMay(w lex.Word) bool {
	if w.At < 0 {
		return false
	}
	switch w.K {
	case 0, 1, 5:
		return len(w.S) <= maxName && nameForm.MatchString(w.S)
	case 2:
		return binForm.MatchString(w.S)
	case 3:
		return len(w.S) <= maxNum && numForm.MatchString(w.S)
	case 4:
		return len(w.S) <= maxStr
	}
	_, exists := marks[w.K]
	return exists && w.S == ""
}

// refToken returns the token that s begins with, valid or not, and its size in s, or false if there is none.
func refToken(s string) (lex.Word, int, bool) {
	for _, f := range tokenForms {
		groups := f.form.FindStringSubmatch(s)
		if groups == nil {
			continue
		}
		w := lex.Word{K: f.kind, S: groups[2]}
		if f.kind == 4 {
			w.S = strings.Join(strings.Split(w.S, "''"), "'")
		}
		return w, len(groups[1]), true
	}
	for kind, mark := range marks {
		if strings.HasPrefix(s, mark) {
			return lex.Word{K: kind}, len(mark), true
		}
	}
	return lex.Word{}, 0, false
}

func refWords(s string) ([]lex.Word, int, api.Errno) {
	if len(s) > maxText {
		return nil, 0, api.ErrLong
	}
	var l []lex.Word
	at := 0
	for at < len(s) {
		if span := whiteForm.FindStringIndex(s[at:]); span != nil {
			at += span[1]
			continue
		}
		w, size, ok := refToken(s[at:])
		w.At = at
		if !ok || !refMay(w) {
			return nil, at, api.ErrSyntax
		}
		l = append(l, w)
		at += size
	}
	return l, 0, 0
}

// refSource returns how a valid token is written.
func refSource(w lex.Word) string {
	switch w.K {
	case 1:
		return w.S + ":"
	case 4:
		return "'" + strings.Join(strings.Split(w.S, "'"), "''") + "'"
	case 5:
		return ":" + w.S
	}
	return w.S + marks[w.K]
}

func refText(l []lex.Word) (string, api.Errno) {
	var list []string
	for _, w := range l {
		if !refMay(w) {
			return "", api.ErrArg
		}
		list = append(list, refSource(w))
	}
	s := strings.Join(list, " ")
	if len(s) > maxText {
		return "", api.ErrLong
	}
	return s, 0
}

func checkMay(t *testing.T, w lex.Word, want bool) {
	t.Helper()
	if lex.May(w) != want {
		t.Fatalf("May(%v) is %t, want %t", w, !want, want)
	}
}

// checkMayDefinition compares May to the definition. It returns whether the token is valid.
func checkMayDefinition(t *testing.T, w lex.Word) bool {
	t.Helper()
	want := refMay(w)
	checkMay(t, w, want)
	return want
}

func checkWords(t *testing.T, s string, want []lex.Word) {
	t.Helper()
	l, at, err := lex.Words(s)
	if !slices.Equal(l, want) || at != 0 || err != nil {
		t.Fatalf("Words(%q) is %v, %d, %v, want %v", shown(s), l, at, err, want)
	}
}

func checkWordsError(t *testing.T, s string, wantAt int, want api.Errno) {
	t.Helper()
	l, at, err := lex.Words(s)
	if len(l) != 0 || at != wantAt || errno(t, err) != want {
		t.Fatalf("Words(%q) is %v, %d, %v, want offset %d, error %d", shown(s), l, at, err, wantAt, want)
	}
}

// checkWordsDefinition compares Words to the definition. It returns whether s consists of tokens.
func checkWordsDefinition(t *testing.T, s string) bool {
	t.Helper()
	l, at, n := refWords(s)
	if n != 0 {
		checkWordsError(t, s, at, n)
		return false
	}
	checkWords(t, s, l)
	return true
}

func checkText(t *testing.T, l []lex.Word, want string) {
	t.Helper()
	s, err := lex.Text(l)
	if s != want || err != nil {
		t.Fatalf("Text(%v) is %q, %v, want %q", l[:min(len(l), 20)], shown(s), err, shown(want))
	}
}

func checkTextError(t *testing.T, l []lex.Word, want api.Errno) {
	t.Helper()
	s, err := lex.Text(l)
	if s != "" || errno(t, err) != want {
		t.Fatalf("Text(%v) is %q, %v, want error %d", l[:min(len(l), 20)], shown(s), err, want)
	}
}

// checkTextDefinition compares Text to the definition, and Words to what Text was given. It returns whether
// the tokens have a text.
func checkTextDefinition(t *testing.T, l []lex.Word) bool {
	t.Helper()
	s, n := refText(l)
	if n != 0 {
		checkTextError(t, l, n)
		return false
	}
	checkText(t, l, s)
	checkWords(t, s, placed(l))
	return true
}

// placed returns the tokens with the offsets that they have in their text.
func placed(l []lex.Word) []lex.Word {
	l = slices.Clone(l)
	at := 0
	for i := range l {
		l[i].At = at
		at += len(refSource(l[i])) + 1
	}
	return l
}

// shown returns the first bytes of a long text.
func shown(s string) string {
	return s[:min(len(s), 300)]
}
