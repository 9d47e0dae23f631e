package op_test

import (
	"bytes"
	"math"
	"math/rand/v2"
	"slices"
	"testing"

	"colloquy/api"
	"colloquy/op"
)

type example struct {
	list     []op.Op
	encoding string
	offsets  []int
}

// examples returns that of the chapter, and each instruction with the least and the greatest operands
// and with operands of which no two bytes are equal.
func examples() []example {
	return []example{
		{nil, "", nil},
		{[]op.Op{}, "", nil},
		{[]op.Op{{Code: op.Send, A: 3, B: 1}}, "\x0b\x03\x01", []int{0}},
		{[]op.Op{{Code: op.Self}}, "\x00", []int{0}},
		{[]op.Op{{Code: op.Nil}}, "\x01", []int{0}},
		{[]op.Op{{Code: op.True}}, "\x02", []int{0}},
		{[]op.Op{{Code: op.False}}, "\x03", []int{0}},
		{[]op.Op{{Code: op.Lit, A: 63}}, "\x04\x3f", []int{0}},
		{[]op.Op{{Code: op.Temp, A: 2, B: 15}}, "\x05\x02\x0f", []int{0}},
		{[]op.Op{{Code: op.Set, A: 255}}, "\x06\xff\x00", []int{0}},
		{[]op.Op{{Code: op.Var, A: 255}}, "\x07\xff", []int{0}},
		{[]op.Op{{Code: op.Put}}, "\x08\x00", []int{0}},
		{[]op.Op{{Code: op.Pop}}, "\x09", []int{0}},
		{[]op.Op{{Code: op.Dup}}, "\x0a", []int{0}},
		{[]op.Op{{Code: op.Send, B: 255}}, "\x0b\x00\xff", []int{0}},
		{[]op.Op{{Code: op.Super, A: 128, B: 127}}, "\x0c\x80\x7f", []int{0}},
		{[]op.Op{{Code: op.Jump}}, "\x0d\x00\x00", []int{0}},
		{[]op.Op{{Code: op.Jump, A: 255}}, "\x0d\x00\xff", []int{0}},
		{[]op.Op{{Code: op.Jump, A: 256}}, "\x0d\x01\x00", []int{0}},
		{[]op.Op{{Code: op.Jump, A: 65535}}, "\x0d\xff\xff", []int{0}},
		{[]op.Op{{Code: op.Else, A: 0x1234, B: 0x5678}}, "\x0e\x12\x34\x56\x78", []int{0}},
		{[]op.Op{{Code: op.Else, A: 65535}}, "\x0e\xff\xff\x00\x00", []int{0}},
		{[]op.Op{{Code: op.Else, B: 65535}}, "\x0e\x00\x00\xff\xff", []int{0}},
		{[]op.Op{{Code: op.Else, A: 255, B: 65280}}, "\x0e\x00\xff\xff\x00", []int{0}},
		{[]op.Op{{Code: op.Join}}, "\x0f", []int{0}},
		{[]op.Op{{Code: op.Block, A: 1}}, "\x10\x01", []int{0}},
		{[]op.Op{{Code: op.Answer}}, "\x11", []int{0}},
		{[]op.Op{{Code: op.Me}}, "\x12", []int{0}},
		{[]op.Op{{Code: op.Home}}, "\x13", []int{0}},
		{[]op.Op{{Code: op.Class, A: 10}}, "\x14\x0a", []int{0}},
		{[]op.Op{{Code: op.Nil}, {Code: op.Answer}}, "\x01\x11", []int{0, 1}},
		{
			[]op.Op{{Code: op.Self}, {Code: op.Else, A: 11, B: 13}, {Code: op.Lit, A: 7}, {Code: op.Jump, A: 13}, {Code: op.Temp, A: 1}, {Code: op.Join}, {Code: op.Home}},
			"\x00\x0e\x00\x0b\x00\x0d\x04\x07\x0d\x00\x0d\x05\x01\x00\x0f\x13",
			[]int{0, 1, 6, 8, 11, 14, 15},
		},
		{
			[]op.Op{{Code: op.Jump, A: 0x0d0d}, {Code: op.Set, A: 6, B: 6}, {Code: op.Set, A: 6, B: 6}, {Code: op.Self}, {Code: op.Self}},
			"\x0d\x0d\x0d\x06\x06\x06\x06\x06\x06\x00\x00",
			[]int{0, 3, 6, 9, 10},
		},
	}
}

func checkEncode(t *testing.T, l []op.Op, want string) {
	t.Helper()
	b, err := op.Encode(l)
	if string(b) != want || err != nil {
		t.Fatalf("Encode(%v) is %x, %v, want %x", l, b, err, want)
	}
}

func checkEncodeError(t *testing.T, l []op.Op, want api.Errno) {
	t.Helper()
	b, err := op.Encode(l)
	if b != nil || errno(t, err) != want {
		t.Fatalf("Encode(%v) is %x, %v, want error %d", l[:min(len(l), 20)], b, err, want)
	}
}

// checkEncodeDefinition compares Encode to the definition.
func checkEncodeDefinition(t *testing.T, l []op.Op) {
	t.Helper()
	b, want := refEncode(l)
	if want != 0 {
		checkEncodeError(t, l, want)
		return
	}
	checkEncode(t, l, string(b))
}

// TestEncodeExamples: promise OP2 and the example of the chapter.
func TestEncodeExamples(t *testing.T) {
	seen := map[uint8]bool{}
	for _, e := range examples() {
		checkEncode(t, e.list, e.encoding)
		for _, o := range e.list {
			seen[o.Code] = true
		}
	}
	if len(seen) != 21 {
		t.Errorf("the examples have %d instructions", len(seen))
	}
}

// checkOne compares Encode and Decode of one valid instruction to the definition.
func checkOne(t *testing.T, code uint8, a, b int) {
	t.Helper()
	o := op.Op{Code: code, A: a, B: b}
	want := refEncoding(o)
	if got, err := op.Encode([]op.Op{o}); !bytes.Equal(got, want) || err != nil {
		t.Fatalf("Encode(%v) is %x, %v, want %x", o, got, err, want)
	}
	l, offsets, err := op.Decode(want)
	if len(l) != 1 || l[0] != o || len(offsets) != 1 || offsets[0] != 0 || err != nil {
		t.Fatalf("Decode(%x) is %v, %d, %v, want %v", want, l, offsets, err, o)
	}
}

// TestAllOperands: promises OP2 and OP3, all operands of one byte, in all pairs, and all operands of two
// bytes, with some others.
func TestAllOperands(t *testing.T) {
	for _, code := range knownCodes {
		mostA, mostB := greatest(known[code].form, 0), greatest(known[code].form, 1)
		others := []int{0, 1, 255, 256, 0x1234, 65535}
		for a := range mostA + 1 {
			if mostB <= 255 {
				for b := range mostB + 1 {
					checkOne(t, code, a, b)
				}
				continue
			}
			for _, other := range others {
				checkOne(t, code, a, other)
				checkOne(t, code, other, a)
			}
		}
	}
}

// TestEncodeInvalid: promise OP2, invalid instructions, one by one.
func TestEncodeInvalid(t *testing.T) {
	for _, o := range []op.Op{
		{Code: 21},
		{Code: 128},
		{Code: 255},
		{Code: 21, A: 1, B: 1},
		{Code: op.Self, A: 1},
		{Code: op.Self, B: 1},
		{Code: op.Answer, A: -1},
		{Code: op.Answer, B: -1},
		{Code: op.Pop, A: 256},
		{Code: op.Dup, B: 65536},
		{Code: op.Join, A: 1 << 32, B: 1 << 32},
		{Code: op.Lit, A: -1},
		{Code: op.Lit, A: 256},
		{Code: op.Lit, A: 1, B: 1},
		{Code: op.Class, B: -1},
		{Code: op.Block, B: 256},
		{Code: op.Temp, A: 256},
		{Code: op.Temp, B: 256},
		{Code: op.Send, A: 3, B: -1},
		{Code: op.Send, A: -1, B: 1},
		{Code: op.Super, A: math.MinInt},
		{Code: op.Set, B: math.MaxInt},
		{Code: op.Jump, A: -1},
		{Code: op.Jump, A: 65536},
		{Code: op.Jump, B: 1},
		{Code: op.Jump, A: 65535, B: 65535},
		{Code: op.Else, A: 65536},
		{Code: op.Else, B: 65536},
		{Code: op.Else, A: -1},
		{Code: op.Else, B: -1},
		{Code: op.Else, A: 1 << 32, B: 5},
	} {
		checkEncodeError(t, []op.Op{o}, api.ErrCode)
	}
}

// TestEncodeOperands: promise OP2, all codes with operands of all sizes, valid and invalid, against the
// definition.
func TestEncodeOperands(t *testing.T) {
	list := operands()
	for code := range 256 {
		for _, a := range list {
			for _, b := range list {
				checkEncodeDefinition(t, []op.Op{{Code: uint8(code), A: a, B: b}})
			}
		}
	}
}

// TestEncodePlace: promise OP2, an invalid instruction at each place of a list.
func TestEncodePlace(t *testing.T) {
	source := rand.New(rand.NewPCG(7, 1))
	for _, bad := range []op.Op{{Code: 21}, {Code: 255}, {Code: op.Me, A: 1}, {Code: op.Lit, A: -1}, {Code: op.Jump, A: 65536}} {
		for size := range 60 {
			l := randoms(source, size)
			for i := range len(l) + 1 {
				checkEncodeError(t, slices.Insert(slices.Clone(l), i, bad), api.ErrCode)
			}
		}
	}
}

// TestEncodeLong: promise OP2, encodings of 510 to 520 bytes, in which each instruction is repeated, with
// all its operands 0 or as great as can be.
func TestEncodeLong(t *testing.T) {
	for _, code := range knownCodes {
		form := known[code].form
		for _, o := range []op.Op{{Code: code}, {Code: code, A: greatest(form, 0), B: greatest(form, 1)}} {
			for size := 510; size <= 520; size++ {
				l := filled(slices.Repeat([]op.Op{o}, size/refSize(code)), size)
				checkEncodeDefinition(t, l)
				slices.Reverse(l)
				checkEncodeDefinition(t, l)
			}
		}
	}
	checkEncode(t, slices.Repeat([]op.Op{{Code: op.Pop}}, 512), string(bytes.Repeat([]byte{9}, 512)))
	for _, size := range []int{513, 514, 768, 1024, 65536, 65537, 1 << 20} {
		checkEncodeError(t, slices.Repeat([]op.Op{{Code: op.Pop}}, size), api.ErrLong)
		checkEncodeError(t, slices.Repeat([]op.Op{{Code: op.Else, A: 1, B: 2}}, size/5+1), api.ErrLong)
	}
}

// TestEncodeOrder: promise OP2, where both errors apply ErrCode comes first, wherever the invalid
// instruction stands.
func TestEncodeOrder(t *testing.T) {
	for _, bad := range []op.Op{{Code: 21}, {Code: 255}, {Code: op.Self, A: 1}, {Code: op.Else, B: 65536}, {Code: op.Send, A: -1}} {
		for _, size := range []int{512, 513, 600, 5000} {
			l := slices.Repeat([]op.Op{{Code: op.Nil}}, size)
			for _, i := range []int{0, 1, 255, 510, 511, 512, 513, 599, 600, 4999, 5000} {
				if i <= size {
					checkEncodeError(t, slices.Insert(slices.Clone(l), i, bad), api.ErrCode)
				}
			}
		}
	}
	checkEncodeError(t, slices.Repeat([]op.Op{{Code: 21}}, 513), api.ErrCode)
	checkEncodeError(t, slices.Repeat([]op.Op{{Code: 21}}, 1<<20), api.ErrCode)
}

// TestEncodeRandom: promise OP2, the same random instructions each time, some of them invalid, against the
// definition.
func TestEncodeRandom(t *testing.T) {
	source := rand.New(rand.NewPCG(7, 2))
	list := operands()
	for range 20000 {
		l := randoms(source, source.IntN(530))
		if len(l) > 0 && source.IntN(4) == 0 {
			o := &l[source.IntN(len(l))]
			switch source.IntN(3) {
			case 0:
				o.Code = uint8(source.Uint32())
			case 1:
				o.A = list[source.IntN(len(list))]
			case 2:
				o.B = list[source.IntN(len(list))]
			}
		}
		checkEncodeDefinition(t, l)
	}
}
