package op_test

import (
	"errors"
	"maps"
	"math"
	"math/rand/v2"
	"slices"
	"strconv"
	"strings"
	"testing"

	"colloquy/api"
	"colloquy/op"
)

// chapter lists the instructions as the section Terms of chapter 7 does.
const chapter = "0 self, 1 nil, 2 true, 3 false, 4 lit 1, 5 temp 11, 6 set 11, 7 var 1, 8 put 1, 9 pop, " +
	"10 dup, 11 send 11, 12 super 11, 13 jump 2, 14 else 22, 15 join, 16 block 1, 17 answer, 18 me, " +
	"19 home, 20 class 1"

type instruction struct{ name, form string }

// known holds the instructions of the chapter, by their codes.
var known = parseChapter()

func parseChapter() map[uint8]instruction {
	all := map[uint8]instruction{}
	for _, entry := range strings.Split(chapter, ", ") {
		words := append(strings.Split(entry, " "), "")
		code, err := strconv.ParseUint(words[0], 10, 8)
		if err != nil {
			panic(err)
		}
		all[uint8(code)] = instruction{words[1], words[2]}
	}
	return all
}

// knownCodes holds the codes of all instructions in increasing order.
var knownCodes = slices.Sorted(maps.Keys(known))

// errno returns the number of an error, or 0 if there is none.
func errno(t *testing.T, err error) api.Errno {
	t.Helper()
	var n api.Errno
	if err != nil && !errors.As(err, &n) {
		t.Fatalf("error %v has no number", err)
	}
	return n
}

// greatest returns the greatest operand A (index 0) or B (index 1) of a form.
func greatest(form string, index int) int {
	if index >= len(form) {
		return 0
	}
	if form[index] == '1' {
		return 255
	}
	return 65535
}

func refSize(code uint8) int {
	i, ok := known[code]
	if !ok {
		return 0
	}
	return 1 + strings.Count(i.form, "1") + 2*strings.Count(i.form, "2")
}

func refValid(o op.Op) bool {
	i, ok := known[o.Code]
	return ok && 0 <= o.A && o.A <= greatest(i.form, 0) && 0 <= o.B && o.B <= greatest(i.form, 1)
}

// refEncoding returns the encoding of a valid instruction.
func refEncoding(o op.Op) []byte {
	b := []byte{o.Code}
	for i, digit := range known[o.Code].form {
		n := []int{o.A, o.B}[i]
		if digit == '2' {
			b = append(b, byte(n/256))
		}
		b = append(b, byte(n%256))
	}
	return b
}

func refEncode(l []op.Op) ([]byte, api.Errno) {
	var b []byte
	for _, o := range l {
		if !refValid(o) {
			return nil, api.ErrCode
		}
		b = append(b, refEncoding(o)...)
	}
	if len(b) > 512 {
		return nil, api.ErrLong
	}
	return b, 0
}

// refFirst returns the instruction with whose encoding b begins, or false if there is none.
func refFirst(b []byte) (op.Op, bool) {
	size := refSize(b[0])
	if size == 0 || len(b) < size {
		return op.Op{}, false
	}
	o := op.Op{Code: b[0]}
	switch known[b[0]].form {
	case "1":
		o.A = int(b[1])
	case "2":
		o.A = int(b[1])*256 + int(b[2])
	case "11":
		o.A, o.B = int(b[1]), int(b[2])
	case "22":
		o.A, o.B = int(b[1])*256+int(b[2]), int(b[3])*256+int(b[4])
	}
	return o, true
}

func refDecode(b []byte) ([]op.Op, []int, api.Errno) {
	if len(b) > 512 {
		return nil, nil, api.ErrLong
	}
	var l []op.Op
	var offsets []int
	for at := 0; at < len(b); at += refSize(b[at]) {
		o, ok := refFirst(b[at:])
		if !ok {
			return nil, nil, api.ErrCode
		}
		l = append(l, o)
		offsets = append(offsets, at)
	}
	return l, offsets, 0
}

// operands returns numbers that are an operand of each width, at the ends of the widths, and outside of
// all of them, some of which have only zeros in their last bytes.
func operands() []int {
	list := []int{math.MinInt, math.MinInt + 1, math.MaxInt - 1, math.MaxInt}
	for _, p := range []int{1 << 7, 1 << 8, 1 << 9, 1 << 15, 1 << 16, 1 << 17, 1 << 24, 1 << 31, 1 << 32, 1 << 48, 1 << 62} {
		list = append(list, p-1, p, p+1, -p-1, -p, -p+1)
	}
	for n := -3; n <= 9; n++ {
		list = append(list, n)
	}
	return list
}

// random returns a valid instruction, whose operands are often at the ends of their width.
func random(source *rand.Rand) op.Op {
	code := knownCodes[source.IntN(len(knownCodes))]
	operand := func(index int) int {
		most := greatest(known[code].form, index)
		return []int{0, most, source.IntN(most + 1), source.IntN(most + 1)}[source.IntN(4)]
	}
	return op.Op{Code: code, A: operand(0), B: operand(1)}
}

// randoms returns valid instructions whose encodings have up to so many bytes.
func randoms(source *rand.Rand, size int) []op.Op {
	var l []op.Op
	for {
		o := random(source)
		size -= refSize(o.Code)
		if size < 0 {
			return l
		}
		l = append(l, o)
	}
}

// filled returns valid instructions whose encodings have exactly so many bytes and begin with l.
func filled(l []op.Op, size int) []op.Op {
	l = slices.Clone(l)
	for _, o := range l {
		size -= refSize(o.Code)
	}
	return append(l, slices.Repeat([]op.Op{{Code: op.Dup}}, size)...)
}
