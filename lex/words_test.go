package lex_test

import (
	"strings"
	"testing"

	"colloquy/api"
	"colloquy/lex"
)

// TestWords: promise LX2 and the example of the chapter, sources of all kinds of tokens.
func TestWords(t *testing.T) {
	for _, e := range []struct {
		s    string
		want []lex.Word
	}{
		{"", nil},
		{"x := 'it''s'", []lex.Word{{K: lex.Name, S: "x"}, {K: lex.Assign, At: 2}, {K: lex.Str, S: "it's", At: 5}}},
		{"x:='it''s'", []lex.Word{{K: lex.Name, S: "x"}, {K: lex.Assign, At: 1}, {K: lex.Str, S: "it's", At: 3}}},
		{"abc", []lex.Word{{K: lex.Name, S: "abc"}}},
		{"aZ0", []lex.Word{{K: lex.Name, S: "aZ0"}}},
		{"at:", []lex.Word{{K: lex.Key, S: "at"}}},
		{"at: 1", []lex.Word{{K: lex.Key, S: "at"}, {K: lex.Num, S: "1", At: 4}}},
		{"at:put:", []lex.Word{{K: lex.Key, S: "at"}, {K: lex.Key, S: "put", At: 3}}},
		{"at:x", []lex.Word{{K: lex.Key, S: "at"}, {K: lex.Name, S: "x", At: 3}}},
		{"at: =", []lex.Word{{K: lex.Key, S: "at"}, {K: lex.Bin, S: "=", At: 4}}},
		{"at:1", []lex.Word{{K: lex.Key, S: "at"}, {K: lex.Num, S: "1", At: 3}}},
		{"x:=", []lex.Word{{K: lex.Name, S: "x"}, {K: lex.Assign, At: 1}}},
		{"x::=", []lex.Word{{K: lex.Key, S: "x"}, {K: lex.Assign, At: 2}}},
		{"x::y", []lex.Word{{K: lex.Key, S: "x"}, {K: lex.Arg, S: "y", At: 2}}},
		{"x:==", []lex.Word{{K: lex.Name, S: "x"}, {K: lex.Assign, At: 1}, {K: lex.Bin, S: "=", At: 3}}},
		{"x:y:=z", []lex.Word{{K: lex.Key, S: "x"}, {K: lex.Name, S: "y", At: 2}, {K: lex.Assign, At: 3}, {K: lex.Name, S: "z", At: 5}}},
		{"+", []lex.Word{{K: lex.Bin, S: "+"}}},
		{"<=", []lex.Word{{K: lex.Bin, S: "<="}}},
		{"+++", []lex.Word{{K: lex.Bin, S: "++"}, {K: lex.Bin, S: "+", At: 2}}},
		{"<>=~,", []lex.Word{{K: lex.Bin, S: "<>"}, {K: lex.Bin, S: "=~", At: 2}, {K: lex.Bin, S: ",", At: 4}}},
		{"+ +", []lex.Word{{K: lex.Bin, S: "+"}, {K: lex.Bin, S: "+", At: 2}}},
		{"+\"\"+", []lex.Word{{K: lex.Bin, S: "+"}, {K: lex.Bin, S: "+", At: 3}}},
		{"\\*-/", []lex.Word{{K: lex.Bin, S: "\\*"}, {K: lex.Bin, S: "-/", At: 2}}},
		{"0", []lex.Word{{K: lex.Num, S: "0"}}},
		{"120", []lex.Word{{K: lex.Num, S: "120"}}},
		{"-7", []lex.Word{{K: lex.Bin, S: "-"}, {K: lex.Num, S: "7", At: 1}}},
		{"3--7", []lex.Word{{K: lex.Num, S: "3"}, {K: lex.Bin, S: "--", At: 1}, {K: lex.Num, S: "7", At: 3}}},
		{"12ab", []lex.Word{{K: lex.Num, S: "12"}, {K: lex.Name, S: "ab", At: 2}}},
		{"0x1", []lex.Word{{K: lex.Num, S: "0"}, {K: lex.Name, S: "x1", At: 1}}},
		{"0 0", []lex.Word{{K: lex.Num, S: "0"}, {K: lex.Num, S: "0", At: 2}}},
		{"0.0", []lex.Word{{K: lex.Num, S: "0"}, {K: lex.Dot, At: 1}, {K: lex.Num, S: "0", At: 2}}},
		{"1:=2", []lex.Word{{K: lex.Num, S: "1"}, {K: lex.Assign, At: 1}, {K: lex.Num, S: "2", At: 3}}},
		{"''", []lex.Word{{K: lex.Str}}},
		{"''''", []lex.Word{{K: lex.Str, S: "'"}}},
		{"''''''", []lex.Word{{K: lex.Str, S: "''"}}},
		{"'a' 'b'", []lex.Word{{K: lex.Str, S: "a"}, {K: lex.Str, S: "b", At: 4}}},
		{"'a'''", []lex.Word{{K: lex.Str, S: "a'"}}},
		{"'a''b'", []lex.Word{{K: lex.Str, S: "a'b"}}},
		{"'a'\"\"'b'", []lex.Word{{K: lex.Str, S: "a"}, {K: lex.Str, S: "b", At: 5}}},
		{"'a'b", []lex.Word{{K: lex.Str, S: "a"}, {K: lex.Name, S: "b", At: 3}}},
		{"' \"'", []lex.Word{{K: lex.Str, S: " \""}}},
		{"'\x00\xff\n'", []lex.Word{{K: lex.Str, S: "\x00\xff\n"}}},
		{":a", []lex.Word{{K: lex.Arg, S: "a"}}},
		{" :aB3", []lex.Word{{K: lex.Arg, S: "aB3", At: 1}}},
		{":a:=", []lex.Word{{K: lex.Arg, S: "a"}, {K: lex.Assign, At: 2}}},
		{":a:b", []lex.Word{{K: lex.Arg, S: "a"}, {K: lex.Arg, S: "b", At: 2}}},
		{"1:a", []lex.Word{{K: lex.Num, S: "1"}, {K: lex.Arg, S: "a", At: 1}}},
		{":=", []lex.Word{{K: lex.Assign}}},
		{":=:=", []lex.Word{{K: lex.Assign}, {K: lex.Assign, At: 2}}},
		{":=:a", []lex.Word{{K: lex.Assign}, {K: lex.Arg, S: "a", At: 2}}},
		{":=^;.()[]|{}", []lex.Word{{K: lex.Assign}, {K: lex.Up, At: 2}, {K: lex.Semi, At: 3}, {K: lex.Dot, At: 4}, {K: lex.Open, At: 5},
			{K: lex.Close, At: 6}, {K: lex.Left, At: 7}, {K: lex.Right, At: 8}, {K: lex.Bar, At: 9}, {K: lex.Begin, At: 10}, {K: lex.End, At: 11}}},
		{"||", []lex.Word{{K: lex.Bar}, {K: lex.Bar, At: 1}}},
		{" \t\n\r", nil},
		{"\r\nx\t", []lex.Word{{K: lex.Name, S: "x", At: 2}}},
		{"\"\"", nil},
		{"\"a\"\"b\"", nil},
		{"\"it's\" x", []lex.Word{{K: lex.Name, S: "x", At: 7}}},
		{"x\":\"y", []lex.Word{{K: lex.Name, S: "x"}, {K: lex.Name, S: "y", At: 4}}},
		{"\"\x00\xff:\n_\"", nil},
	} {
		checkWords(t, e.s, e.want)
		checkWordsDefinition(t, e.s)
	}
}

// TestWordsErrors: promise LX2, the first place where there is no token, white space or comment.
func TestWordsErrors(t *testing.T) {
	long := strings.Repeat("n", 65)
	for _, e := range []struct {
		s  string
		at int
	}{
		{"_", 0},
		{"#x", 0},
		{"x _", 2},
		{"a_b", 1},
		{"é", 0},
		{"aé", 1},
		{"\x00", 0},
		{"x\x00", 1},
		{"x\v", 1},
		{"x\f", 1},
		{"x\xa0", 1},
		{"\xef\xbb\xbfx", 0},
		{":", 0},
		{"::", 0},
		{"::=", 0},
		{"::a", 0},
		{": a", 0},
		{": =", 0},
		{":1", 0},
		{":'a'", 0},
		{":\"a\"a", 0},
		{"x :", 2},
		{"x : y", 2},
		{"x\"\": y", 3},
		{"x:::y", 2},
		{"1:", 1},
		{":a:", 2},
		{":a::b", 2},
		{"00", 0},
		{"01", 0},
		{"1 02", 2},
		{"x01 007", 4},
		{"-01", 1},
		{"0" + strings.Repeat("1", 800), 0},
		{" " + strings.Repeat("1", 701), 1},
		{" " + strings.Repeat("1", 1400) + "a", 1},
		{long, 0},
		{"(" + long + ")", 1},
		{long + ":", 0},
		{"a: " + long + ": b", 3},
		{":" + long, 0},
		{"[ :" + long + " | ]", 2},
		{long + ":=", 0},
		{"x := " + long + strings.Repeat("n", 1000), 5},
		{"'" + strings.Repeat("s", 1025) + "'", 0},
		{"x '" + strings.Repeat("''", 1025) + "' _", 2},
		{"'", 0},
		{"'''", 0},
		{"'''''", 0},
		{"'a", 0},
		{"'a''", 0},
		{"'a''b", 0},
		{"x 'a", 2},
		{"'a' '", 4},
		{"'a'\"\"'", 5},
		{"'" + strings.Repeat("s", 2000), 0},
		{"\"", 0},
		{"\"a", 0},
		{"\"a\"\"", 3},
		{"x \"a'", 2},
		{"x \"a' _", 2},
		{"'a' \"", 4},
		{"x _ 00 \"", 2},
		{"00 _", 0},
		{"x '_\" _", 2},
	} {
		checkWordsError(t, e.s, e.at, api.ErrSyntax)
		checkWordsDefinition(t, e.s)
	}
}
