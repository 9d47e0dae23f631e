package flow_test

import (
	"bytes"
	"slices"
	"strconv"
	"testing"

	"colloquy/api"
	"colloquy/flow"
)

// checkDepths checks Depths, and Check, for code that is well-formed.
func checkDepths(t *testing.T, text string, want ...int) {
	t.Helper()
	b := assemble(text)
	got, err := flow.Depths(b)
	if errno(t, err) != 0 || !slices.Equal(got, want) {
		t.Errorf("Depths(%s): %d, %v, want %d", text, got, err, want)
	}
	if err := flow.Check(b); err != nil {
		t.Errorf("Check(%s): %v", text, err)
	}
}

// checkError checks that Check, Depths and Post return an error, and nothing else.
func checkError(t *testing.T, b []byte, want api.Errno) {
	t.Helper()
	if err := flow.Check(b); errno(t, err) != want {
		t.Errorf("Check(%x): %v, want %v", b, err, want)
	}
	if got, err := flow.Depths(b); errno(t, err) != want || got != nil {
		t.Errorf("Depths(%x): %d, %v, want %v", b, got, err, want)
	}
	if got, err := flow.Post(b); errno(t, err) != want || got != nil {
		t.Errorf("Post(%x): %d, %v, want %v", b, got, err, want)
	}
}

func checkBad(t *testing.T, texts ...string) {
	t.Helper()
	for _, text := range texts {
		checkError(t, assemble(text), api.ErrCode)
	}
}

// TestDepthsExample: promise FL1, the example of the chapter.
func TestDepthsExample(t *testing.T) {
	checkDepths(t, "nil; answer", 0, 1)
}

// TestDepthsStraight: promise FL1, code without branches.
func TestDepthsStraight(t *testing.T) {
	checkDepths(t, "me", 0)
	checkDepths(t, "join; me", 0, 0)
	checkDepths(t, "self; lit 3; dup; send 4 1; set 0 0; put 5; block 1; home", 0, 1, 2, 3, 2, 1, 0, 1)
	checkDepths(t, "nil; true; false; temp 0 1; var 2; class 3; super 1 4; answer", 0, 1, 2, 3, 4, 5, 6, 2)
	checkDepths(t, "nil; nil; nil; answer", 0, 1, 2, 3)
	checkDepths(t, "nil; nil; nil; me", 0, 1, 2, 3)
}

// TestEffects: promise FL1 and the section Terms, each of the 21 instructions finds any number of values that
// is enough, with the number behind it that its effect leaves, and no number that is too small.
func TestEffects(t *testing.T) {
	effects := []struct {
		line       string
		needs, add int
	}{
		{"self", 0, 1}, {"nil", 0, 1}, {"true", 0, 1}, {"false", 0, 1}, {"lit 9", 0, 1}, {"temp 9 9", 0, 1}, {"var 9", 0, 1},
		{"block 9", 0, 1}, {"class 9", 0, 1}, {"dup", 1, 1}, {"set 9 9", 1, -1}, {"put 9", 1, -1}, {"pop", 1, -1}, {"join", 0, 0},
		{"send 9 0", 1, 0}, {"send 9 1", 2, -1}, {"send 0 2", 3, -2}, {"send 9 30", 31, -30}, {"send 9 31", 32, -31}, {"send 255 32", 33, -32},
		{"super 9 0", 1, 0}, {"super 9 1", 2, -1}, {"super 0 2", 3, -2}, {"super 9 30", 31, -30}, {"super 9 31", 32, -31}, {"super 255 32", 33, -32},
		{"send 0 254", 255, -254}, {"send 0 255", 256, -255}, {"super 0 254", 255, -254}, {"super 0 255", 256, -255},
	}
	for _, e := range effects {
		for before := range 33 {
			text := repeated("nil", before) + e.line + "; me"
			after := before + e.add
			if before < e.needs || after > 32 {
				checkBad(t, text)
				continue
			}
			checkDepths(t, text, append(countTo(before), before, after)...)
		}
	}
}

// countTo returns 0, 1 and so on to n - 1.
func countTo(n int) []int {
	var l []int
	for i := range n {
		l = append(l, i)
	}
	return l
}

// TestEffectsOfBranches: promise FL1 and the section Terms, the effects of Jump and Else at both successors,
// and of the ends.
func TestEffectsOfBranches(t *testing.T) {
	for before := range 33 {
		nils := repeated("nil", before)
		depths := append(countTo(before), before)
		n := strconv.Itoa(before + 1)
		m := strconv.Itoa(before + 2)
		checkDepths(t, nils+"jump "+m+"; me; join; me", append(depths, -1, before, before)...)
		checkDepths(t, nils+"me", depths...)
		if before == 0 {
			checkBad(t, "else "+m+" "+n+"; join; me", "answer", "home")
			continue
		}
		checkDepths(t, nils+"else "+m+" "+n+"; join; join; me", append(depths, before-1, before-1, before-1)...)
		checkDepths(t, nils+"else "+m+" "+m+"; me; join; me", append(depths, before-1, before-1, before-1)...)
		checkDepths(t, nils+"answer", depths...)
		checkDepths(t, nils+"home", depths...)
	}
}

// TestDepthsBranches: promise FL1, branches that meet again at a Join, with and without values below them.
func TestDepthsBranches(t *testing.T) {
	checkDepths(t, "true; else 4 5; nil; jump 5; self; join; answer", 0, 1, 0, 1, 0, 1, 1)
	checkDepths(t, "nil; true; else 5 6; nil; jump 6; self; join; send 0 1; answer", 0, 1, 2, 1, 2, 1, 2, 2, 1)
	checkDepths(t, "true; else 3 3; join; join; me", 0, 1, 0, 0, 0)
	checkDepths(t, "true; else 2 2; join; me", 0, 1, 0, 0)
	checkDepths(t, "true; else 4 5; nil; answer; me; join; me", 0, 1, 0, 1, 0, -1, -1)
	checkDepths(t, "true; else 10 11; false; else 6 7; nil; jump 7; self; join; pop; jump 11; join; join; me",
		0, 1, 0, 1, 0, 1, 0, 1, 1, 0, 0, 0, 0)
}

// TestDepthsLoops: promise FL1, loops, also ones that never end.
func TestDepthsLoops(t *testing.T) {
	checkDepths(t, "jump 0", 0)
	checkDepths(t, "nil; jump 1", 0, 1)
	checkDepths(t, "true; else 5 5; nil; pop; jump 0; join; me", 0, 1, 0, 1, 0, 0, 0)
	checkDepths(t, "nil; join; true; else 6 6; dup; jump 8; join; answer; set 0 0; jump 1", 0, 1, 1, 2, 1, 2, 1, 1, 2, 1)
	checkDepths(t, "jump 2; me; nil; pop; jump 1", 0, 0, 0, 1, 0)
	checkDepths(t, "true; else 0 2; join; jump 0", 0, 1, 0, 0)
}

// TestDepthsUnreachable: promise FL1, -1 for an instruction that is not reachable, whatever it does to the
// stack; it is well-formed all the same.
func TestDepthsUnreachable(t *testing.T) {
	checkDepths(t, "me; me", 0, -1)
	checkDepths(t, "me; pop; answer", 0, -1, -1)
	checkDepths(t, "nil; answer; send 0 255; home", 0, 1, -1, -1)
	checkDepths(t, "jump 2; jump 1; me", 0, -1, 0)
	checkDepths(t, "jump 4; nil; jump 1; pop; me", 0, -1, -1, -1, 0)
	checkDepths(t, "jump 3; pop; else 1 4; me; join; jump 3", 0, -1, -1, 0, -1, -1)
	checkDepths(t, repeated("nil", 32)+"me; nil; me", append(countTo(33), -1, -1)...)
}

// TestDepthsFull: promise FL1, 32 values on the stack are not too many, and 33 are, on any path.
func TestDepthsFull(t *testing.T) {
	for _, line := range []string{"self", "nil", "true", "false", "lit 9", "temp 9 9", "var 9", "block 9", "class 9", "dup"} {
		checkDepths(t, "nil; "+repeated(line, 31)+"me", countTo(33)...)
		checkBad(t, "nil; "+repeated(line, 32)+"me", "nil; "+repeated(line, 32)+"pop; me", "nil; "+repeated(line, 40)+"send 0 30; answer")
	}
	nils := repeated("nil", 31)
	checkDepths(t, nils+"true; else 36 37; nil; me; self; self; join; me", append(countTo(33), 31, 32, -1, 31, 32, 32)...)
	checkBad(t, nils+"true; else 35 37; nil; me; self; self; join; me", nils+"true; else 36 37; nil; nil; me; self; join; me")
	checkBad(t, "nil; jump 0", "nil; dup; jump 1")
}

// TestCheckNoCode: promise FL1, no bytes are not well-formed.
func TestCheckNoCode(t *testing.T) {
	checkError(t, nil, api.ErrCode)
	checkError(t, []byte{}, api.ErrCode)
}

// TestCheckLength: 512 bytes can be well-formed, and 513 give ErrLong, well-formed or not.
func TestCheckLength(t *testing.T) {
	checkDepths(t, repeated("join", 511)+"me", make([]int, 512)...)
	checkDepths(t, repeated("jump 0", 170)+"join; me", append([]int{0}, slices.Repeat([]int{-1}, 171)...)...)
	for size := 513; size < 530; size++ {
		checkError(t, assemble(repeated("join", size-1)+"me"), api.ErrLong)
		checkError(t, bytes.Repeat([]byte{21}, size), api.ErrLong)
		checkError(t, assemble(repeated("pop", size-1)+"nil"), api.ErrLong)
	}
	checkError(t, bytes.Repeat([]byte{21}, 512), api.ErrCode)
	checkError(t, assemble(repeated("join", 511)+"join"), api.ErrCode)
	checkError(t, bytes.Repeat([]byte{18}, 1<<20), api.ErrLong)
}

// TestCheckNoEncoding: promise FL1, ErrCode for bytes that are no encoding, also where no path leads.
func TestCheckNoEncoding(t *testing.T) {
	for code := 21; code < 256; code++ {
		checkError(t, []byte{byte(code)}, api.ErrCode)
		checkError(t, []byte{18, byte(code)}, api.ErrCode)
		checkError(t, []byte{1, byte(code), 17}, api.ErrCode)
	}
	for _, line := range []string{"lit 0", "temp 0 0", "set 0 0", "var 0", "put 0", "send 0 0", "super 0 0", "jump @0", "else @0 @0", "block 0", "class 0"} {
		b := assemble("me; " + line)
		for size := 2; size < len(b); size++ {
			checkError(t, b[:size], api.ErrCode)
		}
	}
}

// TestCheckTargets: promise FL1, the operand A of a Jump and an Else must be the offset of an instruction and
// the operand B of an Else that of a Join, reachable or not.
func TestCheckTargets(t *testing.T) {
	for operand := range 65536 {
		n := strconv.Itoa(operand)
		checkTarget(t, "jump @"+n+"; lit 0; me", slices.Contains([]int{0, 3, 5}, operand))
		checkTarget(t, "lit 0; else @"+n+" @7; join; me", slices.Contains([]int{0, 7, 8}, operand))
		checkTarget(t, "lit 0; else @7 @"+n+"; join; me; join; jump @7", slices.Contains([]int{7, 9}, operand))
	}
	for operand := range 40 {
		n := strconv.Itoa(operand)
		checkTarget(t, "me; lit 0; jump @"+n, slices.Contains([]int{0, 1, 3}, operand))
		checkTarget(t, "me; lit 0; else @"+n+" @8; join; me", slices.Contains([]int{0, 1, 3, 8, 9}, operand))
		checkTarget(t, "me; lit 0; else @0 @"+n+"; join; me", operand == 8)
	}
}

func checkTarget(t *testing.T, text string, ok bool) {
	t.Helper()
	b := assemble(text)
	if err := flow.Check(b); (errno(t, err) == 0) != ok {
		t.Fatalf("Check(%s): %v", text, err)
	}
	if !ok {
		checkError(t, b, api.ErrCode)
	}
}

// TestCheckJoins: promise FL1, no other instruction than a Join is one.
func TestCheckJoins(t *testing.T) {
	for _, line := range []string{"self", "nil", "true", "false", "lit 15", "temp 15 15", "set 15 15", "var 15", "put 15", "pop",
		"dup", "send 15 15", "super 15 15", "jump @15", "else @0 @15", "block 15", "answer", "me", "home", "class 15"} {
		b := assemble("true; else @0 @6; " + line + "; me")
		checkError(t, b, api.ErrCode)
	}
}

// TestCheckLast: promise FL1, the last instruction must not need a next one, reachable or not.
func TestCheckLast(t *testing.T) {
	for _, line := range []string{"self", "nil", "true", "false", "lit 0", "temp 0 0", "set 0 0", "var 0", "put 0", "pop",
		"dup", "send 0 0", "super 0 0", "join", "block 0", "class 0", "else 0 0"} {
		checkBad(t, "join; nil; "+line, "join; me; "+line, "join; jump 0; "+line)
		checkDepths(t, "join; me; jump 0", 0, 0, -1)
	}
	checkBad(t, "join", "nil")
}

// TestCheckTwoDepths: promise FL1, an instruction must not be reached with two numbers of values, wherever
// the paths meet.
func TestCheckTwoDepths(t *testing.T) {
	checkBad(t,
		"true; else 4 5; nil; jump 5; join; join; me",
		"true; else 4 5; jump 5; me; nil; join; me",
		"true; else 3 3; nil; join; me",
		"true; else 0 2; join; nil; jump 0",
		"nil; pop; nil; jump 0",
		"nil; nil; nil; pop; jump 0",
		"nil; true; else 4 5; pop; jump 0; join; me",
		"nil; nil; true; else 5 5; pop; join; pop; me",
		"nil; true; else 0 3; join; pop; jump 0; me",
	)
}

// TestCheckTooFew: promise FL1, an instruction must not need or pop more values than there are, on any path.
func TestCheckTooFew(t *testing.T) {
	for _, line := range []string{"set 0 0", "put 0", "pop", "dup", "send 0 0", "super 0 0", "answer", "home"} {
		checkBad(t, line+"; me", "nil; pop; "+line+"; me", "true; else 3 4; me; "+line+"; join; me", "jump 2; me; "+line+"; jump 1")
	}
	checkBad(t, "else 1 1; join; me", "nil; send 0 1; me", "nil; nil; super 0 2; me", "nil; nil; send 0 1; send 0 1; answer")
}
