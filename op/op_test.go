package op_test

import (
	"testing"

	"colloquy/op"
)

// TestCodes: promise OP1, the constants with their codes, names, forms and sizes, one by one.
func TestCodes(t *testing.T) {
	list := []struct {
		constant, code int
		name, form     string
		size           int
	}{
		{op.Self, 0, "self", "", 1},
		{op.Nil, 1, "nil", "", 1},
		{op.True, 2, "true", "", 1},
		{op.False, 3, "false", "", 1},
		{op.Lit, 4, "lit", "1", 2},
		{op.Temp, 5, "temp", "11", 3},
		{op.Set, 6, "set", "11", 3},
		{op.Var, 7, "var", "1", 2},
		{op.Put, 8, "put", "1", 2},
		{op.Pop, 9, "pop", "", 1},
		{op.Dup, 10, "dup", "", 1},
		{op.Send, 11, "send", "11", 3},
		{op.Super, 12, "super", "11", 3},
		{op.Jump, 13, "jump", "2", 3},
		{op.Else, 14, "else", "22", 5},
		{op.Join, 15, "join", "", 1},
		{op.Block, 16, "block", "1", 2},
		{op.Answer, 17, "answer", "", 1},
		{op.Me, 18, "me", "", 1},
		{op.Home, 19, "home", "", 1},
		{op.Class, 20, "class", "1", 2},
	}
	if len(list) != 21 || len(known) != 21 {
		t.Fatalf("%d and %d instructions", len(list), len(known))
	}
	for _, i := range list {
		if i.constant != i.code {
			t.Errorf("the code of %s is %d, want %d", i.name, i.constant, i.code)
		}
		code := uint8(i.constant)
		if name := op.Name(code); name != i.name {
			t.Errorf("Name(%d) is %q, want %q", code, name, i.name)
		}
		if form, ok := op.Form(code); form != i.form || !ok {
			t.Errorf("Form(%d) is %q, %t, want %q", code, form, ok, i.form)
		}
		if size := op.Size(code); size != i.size {
			t.Errorf("Size(%d) is %d, want %d", code, size, i.size)
		}
	}
}

// TestAllCodes: promise OP1, all codes, most of which no instruction has, against the list of the chapter.
// General rule 4: the second time as the first time.
func TestAllCodes(t *testing.T) {
	for n := range 512 {
		code := uint8(n)
		want, exists := known[code]
		if exists != (code <= 20) {
			t.Fatalf("the chapter has the code %d: %t", code, exists)
		}
		if form, ok := op.Form(code); form != want.form || ok != exists {
			t.Errorf("Form(%d) is %q, %t, want %q, %t", code, form, ok, want.form, exists)
		}
		if name := op.Name(code); name != want.name {
			t.Errorf("Name(%d) is %q, want %q", code, name, want.name)
		}
		if size := op.Size(code); size != refSize(code) {
			t.Errorf("Size(%d) is %d, want %d", code, size, refSize(code))
		}
	}
}

// TestNoInstruction: promise OP1, the codes next to the last one and the greatest one.
func TestNoInstruction(t *testing.T) {
	for _, code := range []uint8{21, 22, 31, 32, 127, 128, 148, 254, 255} {
		if form, ok := op.Form(code); form != "" || ok {
			t.Errorf("Form(%d) is %q, %t", code, form, ok)
		}
		if name := op.Name(code); name != "" {
			t.Errorf("Name(%d) is %q", code, name)
		}
		if size := op.Size(code); size != 0 {
			t.Errorf("Size(%d) is %d", code, size)
		}
	}
}

// TestSizeOfEncoding: promise OP1, Size is the number of bytes of an encoding, whatever the operands are.
func TestSizeOfEncoding(t *testing.T) {
	for _, code := range knownCodes {
		form, _ := op.Form(code)
		for _, o := range []op.Op{
			{Code: code},
			{Code: code, A: greatest(form, 0)},
			{Code: code, B: greatest(form, 1)},
			{Code: code, A: greatest(form, 0), B: greatest(form, 1)},
		} {
			b, err := op.Encode([]op.Op{o})
			if err != nil || len(b) != op.Size(code) {
				t.Errorf("Encode(%v) is %x, %v, but Size(%d) is %d", o, b, err, code, op.Size(code))
			}
		}
	}
}
