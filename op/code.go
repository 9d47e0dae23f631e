package op

import "colloquy/api"

const byteBits = 8

// Op is an instruction with its operands.
type Op struct {
	Code uint8
	A    int
	B    int
}

// Encode returns the encodings of the instructions, one after the other.
func Encode(l []Op) ([]byte, error) {
	size := 0
	for _, o := range l {
		if !o.valid() {
			return nil, api.ErrCode
		}
		size += Size(o.Code)
	}
	if size > api.MaxCode {
		return nil, api.ErrLong
	}
	b := make([]byte, 0, size)
	for _, o := range l {
		b = o.put(b)
	}
	return b, nil
}

// Decode returns the instructions that b is the encoding of, and the offset of each one.
func Decode(b []byte) ([]Op, []int, error) {
	if len(b) > api.MaxCode {
		return nil, nil, api.ErrLong
	}
	var l []Op
	var offsets []int
	for at := 0; at < len(b); {
		size := Size(b[at])
		if size == 0 || size > len(b)-at {
			return nil, nil, api.ErrCode
		}
		l = append(l, get(b[at:at+size]))
		offsets = append(offsets, at)
		at += size
	}
	return l, offsets, nil
}

func (o Op) valid() bool {
	if !exists(o.Code) {
		return false
	}
	a, b := widths(o.Code)
	return fits(o.A, a) && fits(o.B, b)
}

// fits reports whether so many bytes hold n. No bytes hold 0, the operand that does not exist.
func fits(n, width int) bool {
	return n >= 0 && n < 1<<(byteBits*width)
}

// put appends the encoding of a valid instruction to b.
func (o Op) put(b []byte) []byte {
	widthA, widthB := widths(o.Code)
	b = append(b, o.Code)
	b = putNumber(b, o.A, widthA)
	return putNumber(b, o.B, widthB)
}

// putNumber appends n to b in so many bytes, the most significant one first.
func putNumber(b []byte, n, width int) []byte {
	for i := range width {
		b = append(b, byte(n>>(byteBits*(width-1-i))))
	}
	return b
}

// get returns the instruction whose encoding is b.
func get(b []byte) Op {
	code, operands := b[0], b[1:]
	widthA, _ := widths(code)
	return Op{Code: code, A: number(operands[:widthA]), B: number(operands[widthA:])}
}

// number returns the number that b holds, the most significant byte first.
func number(b []byte) int {
	n := 0
	for _, c := range b {
		n = n<<byteBits | int(c)
	}
	return n
}
