package large

import (
	"bytes"
	"slices"
	"strings"

	"colloquy/api"
)

const (
	maxNumeral = 700 // digits

	// Digits are converted in groups, as many at a time as a word holds.
	groupDigits = 9
	groupSize   = 1_000_000_000
)

// Text returns the numeral of a.
func Text(a Num) (string, error) {
	if !a.valid() {
		return "", api.ErrArg
	}
	if len(a.Mag) == 0 {
		return "0", nil
	}
	text := digitsUpward(a.Mag)
	if a.Neg {
		text = append(text, '-')
	}
	slices.Reverse(text)
	return string(text), nil
}

// Parse returns the number whose numeral is s.
func Parse(s string) (Num, error) {
	digits, neg := strings.CutPrefix(s, "-")
	if !areDigits(digits) || digits[0] == '0' && s != "0" {
		return Num{}, api.ErrForm
	}
	return limited(neg, parseMag(digits))
}

// digitsUpward returns the digits of a number other than 0, the lowest one first.
func digitsUpward(mag []uint32) []byte {
	var digits []byte
	for len(mag) > 0 {
		var group uint32
		mag, group = divWord(mag, groupSize)
		for range groupDigits {
			digits = append(digits, '0'+byte(group%10))
			group /= 10
		}
	}
	return bytes.TrimRight(digits, "0")
}

func areDigits(s string) bool {
	isOther := func(r rune) bool { return r < '0' || r > '9' }
	return len(s) >= 1 && len(s) <= maxNumeral && !strings.ContainsFunc(s, isOther)
}

// parseMag takes the digits in groups of equal length, but for the first one.
func parseMag(digits string) []uint32 {
	var mag []uint32
	for len(digits) > 0 {
		n := (len(digits)-1)%groupDigits + 1
		mag = mulMags(mag, []uint32{groupSize})
		mag = trim(addMags(mag, []uint32{parseGroup(digits[:n])}))
		digits = digits[n:]
	}
	return mag
}

func parseGroup(digits string) uint32 {
	var n uint32
	for _, r := range digits {
		n = n*10 + uint32(r-'0')
	}
	return n
}
