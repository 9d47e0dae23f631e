package large_test

import (
	"math"
	"math/big"
	"regexp"
	"strings"
	"testing"

	"colloquy/api"
	"colloquy/large"
)

// longest returns the numerals of the greatest number of 64 words and of the least one of 65.
func longest() (string, string) {
	limit := power(2, 2048)
	return plus(limit, -1).String(), limit.String()
}

// TestNumerals: promise LG3, Text and Parse, and the example of the chapter.
func TestNumerals(t *testing.T) {
	most, _ := longest()
	for _, c := range []struct {
		s string
		a large.Num
	}{
		{"0", num()},
		{"1", num(1)},
		{"-1", minus(1)},
		{"9", num(9)},
		{"10", num(10)},
		{"-100", minus(100)},
		{"999999999", num(999999999)},
		{"1000000000", num(1000000000)},
		{"1000000001", num(1000000001)},
		{"4294967295", num(math.MaxUint32)},
		{"4294967296", num(0, 1)},
		{"-4294967296", minus(0, 1)},
		{"9223372036854775807", num(math.MaxUint32, 1<<31-1)},
		{"-9223372036854775808", minus(0, 1<<31)},
		{"18446744073709551616", num(0, 0, 1)},
		{"1000000000000000000", num(2808348672, 232830643)},
		{"1000000000000000000000000000", num(3892314112, 2681241660, 54210108)},
		{most, num(ones(64)...)},
		{"-" + most, minus(ones(64)...)},
	} {
		if s, err := large.Text(c.a); s != c.s || err != nil {
			t.Errorf("Text(%v) is %q, %v, want %q", c.a, s, err, c.s)
		}
		if a, err := large.Parse(c.s); !same(a, c.a) || err != nil {
			t.Errorf("Parse(%q) is %v, %v, want %v", c.s, a, err, c.a)
		}
	}
	if s, err := large.Text(large.Num{Mag: []uint32{}}); s != "0" || err != nil {
		t.Errorf("Text of no words is %q, %v", s, err)
	}
}

// TestText: promises LG3 and LG4, Text against the definition, and Parse of its results.
func TestText(t *testing.T) {
	everyPair(func(a, _ large.Num) {
		s, err := large.Text(a)
		if s != toBig(a).String() || err != nil {
			t.Fatalf("Text(%v) is %q, %v", a, s, err)
		}
		if back, err := large.Parse(s); !same(back, a) || err != nil {
			t.Fatalf("Parse(%q) is %v, %v, want %v", s, back, err, a)
		}
	})
}

// checkParse compares Parse(s) to the definition, and Text to its inverse.
func checkParse(t *testing.T, s string, isNumeral bool) {
	t.Helper()
	a, err := large.Parse(s)
	if !isNumeral {
		if !same(a, large.Num{}) || errno(t, err) != api.ErrForm {
			t.Errorf("Parse(%q) is %v, %v", s, a, err)
		}
		return
	}
	n, ok := new(big.Int).SetString(s, 10)
	if !ok {
		t.Fatalf("package big does not parse %q", s)
	}
	if !hasWords(n) {
		if !same(a, large.Num{}) || errno(t, err) != api.ErrLong {
			t.Errorf("Parse(%q) is %v, %v", s, a, err)
		}
		return
	}
	if !same(a, ofBig(n)) || err != nil {
		t.Errorf("Parse(%q) is %v, %v", s, a, err)
	}
	if back, err := large.Text(a); back != s || err != nil {
		t.Errorf("Text(Parse(%q)) is %q, %v", s, back, err)
	}
}

// TestParseLengths: promise LG3, numerals of all lengths, and longer ones.
func TestParseLengths(t *testing.T) {
	for n := 1; n <= 720; n++ {
		for _, s := range []string{
			strings.Repeat("9", n),
			strings.Repeat("1", n),
			"1" + strings.Repeat("0", n-1),
			strings.Repeat("9000000001", 72)[:n],
		} {
			checkParse(t, s, n <= 700)
			checkParse(t, "-"+s, n <= 700)
		}
		checkParse(t, "0"+strings.Repeat("0", n), false)
		checkParse(t, "0"+strings.Repeat("1", n), false)
		checkParse(t, "-0"+strings.Repeat("1", n), false)
	}
}

// TestParseLong: promise LG3, the numbers around the greatest one of 64 words, and numerals that are
// longer than any of a valid Num.
func TestParseLong(t *testing.T) {
	most, next := longest()
	nines := func(n int) string { return strings.Repeat("9", n) }
	for _, c := range []struct {
		s    string
		code api.Errno
	}{
		{most, 0},
		{"-" + most, 0},
		{next, api.ErrLong},
		{"-" + next, api.ErrLong},
		{nines(616), 0},
		{nines(617), api.ErrLong},
		{"-" + nines(617), api.ErrLong},
		{nines(700), api.ErrLong},
		{"-" + nines(700), api.ErrLong},
		{nines(701), api.ErrForm},
		{"-" + nines(701), api.ErrForm},
		{"1" + strings.Repeat("0", 699), api.ErrLong},
		{"1" + strings.Repeat("0", 700), api.ErrForm},
		{strings.Repeat("0", 700), api.ErrForm},
		{strings.Repeat("0", 701), api.ErrForm},
		{"0" + most, api.ErrForm},
		{nines(699) + "a", api.ErrForm},
		{"a" + nines(699), api.ErrForm},
		{nines(1 << 20), api.ErrForm},
		{strings.Repeat("-", 1<<20), api.ErrForm},
	} {
		a, err := large.Parse(c.s)
		if errno(t, err) != c.code || err != nil && !same(a, large.Num{}) {
			t.Errorf("Parse of %d bytes is %v, %v, want error %d", len(c.s), a, err, c.code)
		}
	}
}

// TestParseForm: promise LG3, texts that are no numeral.
func TestParseForm(t *testing.T) {
	for _, s := range []string{
		"", "-", "--", "--1", "-0", "-00", "00", "01", "-01", "000000000", "0000000001", "+1", "+0", "+", "-+1", "+-1",
		" ", " 1", "1 ", "1 2", "- 1", "1-", "1-2", "1\n", "\n1", "1\x00", "\x00", "1_000", "1,000", "1.0", "1.", ".1", "1e3",
		"0x10", "0b1", "1a", "a1", "a", "1/", "1:", "/", ":", "\xff", "1\xff", "\xb1", "\u0663", "1\u0663", "\uff11", "\u22121", "12345678901a",
		"a2345678901", "123456789\u06601",
	} {
		checkParse(t, s, false)
	}
}

// TestParseBytes: promise LG3, all texts of up to 2 bytes, and all bytes at several places of a longer
// text.
func TestParseBytes(t *testing.T) {
	numeral := regexp.MustCompile(`^(0|-?[1-9][0-9]{0,699})$`)
	check := func(s string) { checkParse(t, s, numeral.MatchString(s)) }
	for b := range 256 {
		one := string([]byte{byte(b)})
		check(one)
		for _, place := range []int{0, 1, 2, 9, 10, 11, 18, 19} {
			s := "1234567890123456789"
			check(s[:place] + one + s[place:])
		}
		for c := range 256 {
			check(one + string([]byte{byte(c)}))
		}
	}
}

// TestParseShort: promise LG3, all texts of up to 5 of some bytes.
func TestParseShort(t *testing.T) {
	numeral := regexp.MustCompile(`^(0|-?[1-9][0-9]*)$`)
	texts := []string{""}
	for range 6 {
		var longer []string
		for _, s := range texts {
			checkParse(t, s, numeral.MatchString(s))
			for _, b := range "019-+ " {
				longer = append(longer, s+string(b))
			}
		}
		texts = longer
	}
}
