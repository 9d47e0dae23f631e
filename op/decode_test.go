package op_test

import (
	"bytes"
	"math/rand/v2"
	"slices"
	"testing"

	"colloquy/api"
	"colloquy/op"
)

func checkDecode(t *testing.T, b []byte, want []op.Op, wantOffsets []int) {
	t.Helper()
	l, offsets, err := op.Decode(b)
	if !slices.Equal(l, want) || !slices.Equal(offsets, wantOffsets) || err != nil {
		t.Fatalf("Decode(%x) is %v, %d, %v, want %v, %d", b, l, offsets, err, want, wantOffsets)
	}
}

func checkDecodeError(t *testing.T, b []byte, want api.Errno) {
	t.Helper()
	l, offsets, err := op.Decode(b)
	if l != nil || offsets != nil || errno(t, err) != want {
		t.Fatalf("Decode(%x) is %v, %d, %v, want error %d", b[:min(len(b), 20)], l, offsets, err, want)
	}
}

// checkDecodeDefinition compares Decode to the definition.
func checkDecodeDefinition(t *testing.T, b []byte) {
	t.Helper()
	l, offsets, want := refDecode(b)
	if want != 0 {
		checkDecodeError(t, b, want)
		return
	}
	checkDecode(t, b, l, offsets)
}

// TestDecodeExamples: promise OP2 and the example of the chapter.
func TestDecodeExamples(t *testing.T) {
	for _, e := range examples() {
		checkDecode(t, []byte(e.encoding), e.list, e.offsets)
	}
}

// TestDecodeNothing: promise OP2, no bytes are the encoding of no instructions.
func TestDecodeNothing(t *testing.T) {
	checkDecode(t, nil, nil, nil)
	checkDecode(t, []byte{}, nil, nil)
	checkDecode(t, make([]byte, 0, 10), nil, nil)
}

// TestDecodeShort: promise OP2, all sequences of one and two bytes, and many of three, against the
// definition.
func TestDecodeShort(t *testing.T) {
	some := []byte{0, 1, 4, 5, 13, 14, 20, 21, 127, 128, 254, 255}
	for c := range 256 {
		checkDecodeDefinition(t, []byte{byte(c)})
		for d := range 256 {
			checkDecodeDefinition(t, []byte{byte(c), byte(d)})
			for _, e := range some {
				checkDecodeDefinition(t, []byte{byte(c), byte(d), e})
			}
		}
	}
}

// TestDecodeOperands: promise OP2, each instruction with operands of which each byte has many values,
// and further bytes behind them.
func TestDecodeOperands(t *testing.T) {
	some := []byte{0, 1, 2, 15, 16, 20, 21, 127, 128, 254, 255}
	for _, code := range knownCodes {
		for _, c := range some {
			for _, d := range some {
				for _, e := range some {
					for _, f := range some {
						b := []byte{code, c, d, e, f}[:refSize(code)]
						checkDecodeDefinition(t, b)
						checkDecodeDefinition(t, append(slices.Clone(b), op.Answer))
					}
				}
			}
		}
	}
}

// TestDecodeCut: promise OP2, bytes that are cut short within each instruction, alone or behind others,
// whatever stands behind the slice.
func TestDecodeCut(t *testing.T) {
	source := rand.New(rand.NewPCG(7, 3))
	for _, code := range knownCodes {
		b := append([]byte{code}, bytes.Repeat([]byte{1}, refSize(code)-1)...)
		for size := 1; size < len(b); size++ {
			checkDecodeError(t, b[:size], api.ErrCode)
			checkDecodeError(t, slices.Clone(b[:size]), api.ErrCode)
			before, _ := refEncode(randoms(source, 100))
			checkDecodeError(t, append(before, b[:size]...), api.ErrCode)
		}
	}
	for range 100 {
		b, _ := refEncode(randoms(source, 60))
		for size := range len(b) {
			checkDecodeDefinition(t, b[:size])
		}
	}
}

// TestDecodeNoInstruction: promise OP2, each code that no instruction has, at the beginning, in the middle
// and at the end of the bytes. As an operand, the same byte is allowed.
func TestDecodeNoInstruction(t *testing.T) {
	for code := 21; code < 256; code++ {
		c := byte(code)
		for _, b := range [][]byte{
			{c},
			{c, 0},
			{c, c, c},
			{op.Nil, c},
			{op.Nil, c, op.Answer},
			{op.Lit, c, c, op.Answer},
			{op.Send, 3, 1, c, 3, 1},
			{op.Else, 0, 6, 0, 7, c, op.Self, op.Join},
			append(bytes.Repeat([]byte{op.Pop}, 511), c),
		} {
			checkDecodeError(t, b, api.ErrCode)
		}
		checkDecode(t, []byte{op.Lit, c}, []op.Op{{Code: op.Lit, A: code}}, []int{0})
		checkDecode(t, []byte{op.Send, c, c}, []op.Op{{Code: op.Send, A: code, B: code}}, []int{0})
		checkDecode(t, []byte{op.Jump, c, c}, []op.Op{{Code: op.Jump, A: code * 257}}, []int{0})
	}
}

// TestDecodeLong: promise OP2, 510 to 520 bytes, in which each instruction is repeated.
func TestDecodeLong(t *testing.T) {
	for _, code := range knownCodes {
		form := known[code].form
		o := op.Op{Code: code, A: greatest(form, 0), B: greatest(form, 1)}
		for size := 510; size <= 520; size++ {
			var b []byte
			for _, o := range filled(slices.Repeat([]op.Op{o}, size/refSize(code)), size) {
				b = append(b, refEncoding(o)...)
			}
			if len(b) != size {
				t.Fatalf("%d bytes, want %d", len(b), size)
			}
			checkDecodeDefinition(t, b)
		}
	}
	l, offsets, err := op.Decode(bytes.Repeat([]byte{op.Dup}, 512))
	if len(l) != 512 || len(offsets) != 512 || err != nil {
		t.Errorf("Decode of 512 bytes is %d, %d, %v", len(l), len(offsets), err)
	}
	for _, size := range []int{513, 514, 768, 1024, 65536, 65537, 1 << 20} {
		checkDecodeError(t, bytes.Repeat([]byte{op.Dup}, size), api.ErrLong)
	}
}

// TestDecodeOrder: promise OP2, where both errors apply ErrLong comes first, and 512 bytes are not too
// long.
func TestDecodeOrder(t *testing.T) {
	for _, c := range []byte{op.Else, op.Jump, op.Lit, 21, 255} {
		checkDecodeError(t, append(bytes.Repeat([]byte{op.Nil}, 511), c), api.ErrCode)
		checkDecodeError(t, append(bytes.Repeat([]byte{op.Nil}, 512), c), api.ErrLong)
		checkDecodeError(t, append(bytes.Repeat([]byte{op.Nil}, 5000), c), api.ErrLong)
	}
	for _, c := range []byte{21, 255} {
		b := append([]byte{c}, bytes.Repeat([]byte{op.Nil}, 512)...)
		checkDecodeError(t, b[:512], api.ErrCode)
		checkDecodeError(t, b, api.ErrLong)
		checkDecodeError(t, bytes.Repeat([]byte{c}, 512), api.ErrCode)
		checkDecodeError(t, bytes.Repeat([]byte{c}, 513), api.ErrLong)
	}
}

// TestDecodeRandom: promise OP2, the same random bytes each time, many of which are codes, against the
// definition.
func TestDecodeRandom(t *testing.T) {
	source := rand.New(rand.NewPCG(7, 4))
	for range 50000 {
		b := make([]byte, source.IntN(40))
		for i := range b {
			b[i] = byte(source.IntN(21))
			if source.IntN(20) == 0 {
				b[i] = byte(source.Uint32())
			}
		}
		checkDecodeDefinition(t, b)
	}
}

// TestDecodeDamaged: promise OP2, encodings of random instructions of which a byte is changed, left out or
// added, against the definition.
func TestDecodeDamaged(t *testing.T) {
	source := rand.New(rand.NewPCG(7, 5))
	for range 20000 {
		b, _ := refEncode(randoms(source, 5+source.IntN(508)))
		i := source.IntN(len(b))
		switch source.IntN(3) {
		case 0:
			b[i] = byte(source.Uint32())
		case 1:
			b = slices.Delete(b, i, i+1)
		case 2:
			b = slices.Insert(b, i, byte(source.Uint32()))
		}
		checkDecodeDefinition(t, b)
	}
}

// TestInverse: promise OP3, what Encode returns is decoded to the same instructions, each of which begins
// where those before it end.
func TestInverse(t *testing.T) {
	source := rand.New(rand.NewPCG(7, 6))
	for range 20000 {
		l := randoms(source, source.IntN(513))
		b, err := op.Encode(l)
		if err != nil {
			t.Fatalf("Encode(%v): %v", l, err)
		}
		var offsets []int
		at := 0
		for _, o := range l {
			offsets = append(offsets, at)
			at += op.Size(o.Code)
		}
		checkDecode(t, b, l, offsets)
	}
}

// TestInverseOperands: promise OP3, each instruction with each pair of operands that are valid.
func TestInverseOperands(t *testing.T) {
	count := 0
	for _, code := range knownCodes {
		for _, a := range operands() {
			for _, b := range operands() {
				l := []op.Op{{Code: code, A: a, B: b}}
				encoding, err := op.Encode(l)
				if err == nil {
					checkDecode(t, encoding, l, []int{0})
					count++
				}
			}
		}
	}
	if count < 500 {
		t.Errorf("only %d pairs are valid", count)
	}
}

// TestInverseBytes: promises OP3 and P5, bytes that are decoded are the only encoding of what they are
// decoded to: Encode returns them.
func TestInverseBytes(t *testing.T) {
	source := rand.New(rand.NewPCG(7, 7))
	count := 0
	for range 100000 {
		b := make([]byte, source.IntN(12))
		for i := range b {
			b[i] = byte(source.IntN(23))
		}
		l, _, err := op.Decode(b)
		if err == nil {
			checkEncode(t, l, string(b))
			count++
		}
	}
	if count < 10000 {
		t.Errorf("only %d sequences are decoded", count)
	}
}
