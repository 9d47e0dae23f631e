package lex_test

import (
	"slices"
	"strings"
	"testing"

	"colloquy/api"
	"colloquy/lex"
)

// TestText: promise LX3, the text of tokens of all kinds.
func TestText(t *testing.T) {
	for _, e := range []struct {
		l    []lex.Word
		want string
	}{
		{nil, ""},
		{[]lex.Word{}, ""},
		{[]lex.Word{{K: lex.Name, S: "x"}}, "x"},
		{[]lex.Word{{K: lex.Name, S: "x"}, {K: lex.Assign}, {K: lex.Str, S: "it's"}}, "x := 'it''s'"},
		{[]lex.Word{{K: lex.Key, S: "at"}}, "at:"},
		{[]lex.Word{{K: lex.Key, S: "at"}, {K: lex.Bin, S: "="}}, "at: ="},
		{[]lex.Word{{K: lex.Bin, S: "<="}, {K: lex.Bin, S: "+"}, {K: lex.Bin, S: "+"}}, "<= + +"},
		{[]lex.Word{{K: lex.Num, S: "0"}, {K: lex.Num, S: "0"}, {K: lex.Num, S: "12"}}, "0 0 12"},
		{[]lex.Word{{K: lex.Str}}, "''"},
		{[]lex.Word{{K: lex.Str, S: "'"}}, "''''"},
		{[]lex.Word{{K: lex.Str, S: "a"}, {K: lex.Str, S: "b"}}, "'a' 'b'"},
		{[]lex.Word{{K: lex.Str, S: "''x'"}}, "'''''x'''"},
		{[]lex.Word{{K: lex.Str, S: "\"\x00\xff\n é"}}, "'\"\x00\xff\n é'"},
		{[]lex.Word{{K: lex.Arg, S: "a"}, {K: lex.Arg, S: "b"}, {K: lex.Bar}}, ":a :b |"},
		{[]lex.Word{{K: 6}, {K: 7}, {K: 8}, {K: 9}, {K: 10}, {K: 11}, {K: 12}, {K: 13}, {K: 14}, {K: 15}, {K: 16}},
			":= ^ ; . ( ) [ ] | { }"},
		{[]lex.Word{{K: lex.Name, S: "x", At: 100}, {K: lex.Name, S: "y", At: 3}, {K: lex.Name, S: "z", At: 3}}, "x y z"},
	} {
		checkText(t, e.l, e.want)
		checkTextDefinition(t, e.l)
	}
}

// TestTextOfTwo: promises LX3 and LX4, all pairs of tokens.
func TestTextOfTwo(t *testing.T) {
	list := tokens()
	for _, first := range list {
		if !checkTextDefinition(t, []lex.Word{first}) {
			t.Errorf("%v has no text", first)
		}
		for _, second := range list {
			if !checkTextDefinition(t, []lex.Word{first, second}) {
				t.Errorf("%v and %v have no text", first, second)
			}
		}
	}
}

// TestTextOfThree: promises LX3 and LX4, all of three tokens that would act on each other if they stood side by
// side.
func TestTextOfThree(t *testing.T) {
	list := []lex.Word{{K: lex.Name, S: "x"}, {K: lex.Key, S: "k"}, {K: lex.Bin, S: "="}, {K: lex.Bin, S: "=="}, {K: lex.Num, S: "0"},
		{K: lex.Num, S: "10"}, {K: lex.Str}, {K: lex.Str, S: "'"}, {K: lex.Str, S: "\""}, {K: lex.Str, S: ":"}, {K: lex.Arg, S: "a"},
		{K: lex.Assign}, {K: lex.Bar}}
	for _, a := range list {
		for _, b := range list {
			for _, c := range list {
				checkTextDefinition(t, []lex.Word{a, b, c})
			}
		}
	}
}

// TestTextOffsets: promise LX3, the offsets have no effect on the text, but have to be valid.
func TestTextOffsets(t *testing.T) {
	for _, at := range offsets {
		checkText(t, []lex.Word{{K: lex.Name, S: "x", At: at}, {K: lex.Dot, At: at}}, "x .")
	}
	for _, at := range badOffsets {
		checkTextError(t, []lex.Word{{K: lex.Name, S: "x", At: at}, {K: lex.Dot}}, api.ErrArg)
		checkTextError(t, []lex.Word{{K: lex.Name, S: "x"}, {K: lex.Dot, At: at}}, api.ErrArg)
	}
}

// TestTextErrArg: promise LX3, a token that is not valid, at each place.
func TestTextErrArg(t *testing.T) {
	sample := []lex.Word{{K: lex.Name, S: "x"}, {K: lex.Assign}, {K: lex.Num, S: "3"}}
	for _, w := range badTokens() {
		checkTextError(t, []lex.Word{w}, api.ErrArg)
		for i := range len(sample) + 1 {
			l := slices.Insert(slices.Clone(sample), i, w)
			checkTextError(t, l, api.ErrArg)
			checkTextDefinition(t, l)
		}
	}
}

// str returns a Str of n bytes.
func str(n int) lex.Word {
	return lex.Word{K: lex.Str, S: strings.Repeat("s", n)}
}

// sized returns tokens whose text has n bytes. The last one is as given.
func sized(n int, last lex.Word) []lex.Word {
	var l []lex.Word
	left := n - len(refSource(last))
	for left > 1000 {
		l = append(l, str(497))
		left -= 500
	}
	for left > 0 {
		size := min(left, 4)
		if left == 5 {
			size = 3
		}
		l = append(l, lex.Word{K: lex.Name, S: "abc"[:size-1]})
		left -= size
	}
	return append(l, last)
}

// TestTextErrLong: promise LX3, texts of 65,536 bytes and one byte more, which end in tokens of all kinds.
func TestTextErrLong(t *testing.T) {
	for _, last := range []lex.Word{{K: lex.Name, S: "x"}, {K: lex.Key, S: "k"}, {K: lex.Bin, S: "+"}, {K: lex.Num, S: "7"}, {K: lex.Str},
		{K: lex.Str, S: "'''"}, {K: lex.Arg, S: "a"}, {K: lex.Assign}, {K: lex.Up}, {K: lex.End}, str(1024)} {
		for n := 65526; n < 65547; n++ {
			l := sized(n, last)
			text, _ := refText(l)
			if n <= maxText && len(text) != n {
				t.Fatalf("the text of the test has %d bytes, want %d", len(text), n)
			}
			if checkTextDefinition(t, l) != (n <= 65536) {
				t.Errorf("a text of %d bytes: wrong result", n)
			}
		}
	}
	for _, n := range []int{32767, 32768} {
		checkTextDefinition(t, slices.Repeat([]lex.Word{{K: lex.Up}}, n))
	}
	quotes := lex.Word{K: lex.Str, S: strings.Repeat("'", 1024)}
	checkTextDefinition(t, slices.Repeat([]lex.Word{quotes}, 31))
	for _, n := range []int{32, 33, 100} {
		checkTextError(t, slices.Repeat([]lex.Word{quotes}, n), api.ErrLong)
	}
	for _, n := range []int{32769, 32770, 65536, 1 << 17, 1 << 20} {
		checkTextError(t, slices.Repeat([]lex.Word{{K: lex.Up}}, n), api.ErrLong)
		checkTextError(t, slices.Repeat([]lex.Word{{K: lex.Name, S: "xy"}}, n), api.ErrLong)
	}
}

// TestTextErrorOrder: promise LX3, ErrArg comes before ErrLong, wherever the token stands that is not valid.
func TestTextErrorOrder(t *testing.T) {
	for _, n := range []int{64, 100, 1000} {
		long := slices.Repeat([]lex.Word{str(1024)}, n)
		checkTextError(t, long, api.ErrLong)
		for _, i := range []int{0, 1, 62, 63, n - 1, n} {
			for _, bad := range []lex.Word{{}, {K: 17}, {K: lex.Up, S: "^"}, str(1025), {K: lex.Num, S: "00"}, {K: lex.Dot, At: -1}} {
				checkTextError(t, slices.Insert(slices.Clone(long), i, bad), api.ErrArg)
			}
		}
	}
}
