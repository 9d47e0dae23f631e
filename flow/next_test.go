package flow_test

import (
	"bytes"
	"math"
	"math/rand/v2"
	"slices"
	"testing"

	"colloquy/api"
	"colloquy/flow"
)

func checkSuccessors(t *testing.T, b []byte, i int, want ...int) {
	t.Helper()
	got, err := flow.Next(b, i)
	if errno(t, err) != 0 || !slices.Equal(got, want) {
		t.Errorf("Next(%x, %d): %d, %v, want %d", b, i, got, err, want)
	}
}

func checkNextError(t *testing.T, b []byte, i int, want api.Errno) {
	t.Helper()
	got, err := flow.Next(b, i)
	if errno(t, err) != want || got != nil {
		t.Errorf("Next(%x, %d): %d, %v, want %v", b, i, got, err, want)
	}
}

// TestNextInstructions: promise FL1, the successors of each of the 21 instructions.
func TestNextInstructions(t *testing.T) {
	for _, line := range []string{"self", "nil", "true", "false", "lit 255", "temp 255 255", "set 0 0", "var 9", "put 9",
		"pop", "dup", "send 1 0", "super 1 255", "join", "block 0", "class 0"} {
		checkSuccessors(t, assemble("nil; "+line+"; me"), 1, 2)
	}
	for _, line := range []string{"answer", "me", "home"} {
		checkSuccessors(t, assemble("nil; "+line+"; me"), 1)
		checkSuccessors(t, assemble("nil; "+line), 1)
	}
	for target := range 4 {
		jump := assemble([]string{"nil; pop; jump 0; me", "nil; pop; jump 1; me", "nil; pop; jump 2; me", "nil; pop; jump 3; me"}[target])
		checkSuccessors(t, jump, 2, target)
	}
	checkSuccessors(t, assemble("join; jump 0"), 1, 0)
}

// TestNextElse: promise FL1, the successors of an Else are in increasing order wherever it goes, and there is
// one if it goes to the next instruction. Its operand B is not a successor, and may be anything.
func TestNextElse(t *testing.T) {
	checkSuccessors(t, assemble("true; else 3 3; me; join; me"), 1, 2, 3)
	checkSuccessors(t, assemble("true; else 4 3; me; join; me"), 1, 2, 4)
	checkSuccessors(t, assemble("true; else 0 3; me; join; me"), 1, 0, 2)
	checkSuccessors(t, assemble("true; else 1 3; me; join; me"), 1, 1, 2)
	checkSuccessors(t, assemble("true; else 2 3; me; join; me"), 1, 2)
	checkSuccessors(t, assemble("true; else 4 2; me; join; me"), 1, 2, 4)
	checkSuccessors(t, assemble("true; else 4 @65535; me; join; me"), 1, 2, 4)
}

// TestNextLong: promise FL1, an operand of a Jump and an Else has two bytes.
func TestNextLong(t *testing.T) {
	b := assemble(repeated("nil; pop", 150) + "true; else 305 304; jump 304; jump 299; join; me")
	checkSuccessors(t, b, 299, 300)
	checkSuccessors(t, b, 301, 302, 305)
	checkSuccessors(t, b, 302, 304)
	checkSuccessors(t, b, 303, 299)
}

// TestNextBesideFaults: promise FL1, what is wrong with another instruction, or with the stack, is not asked.
func TestNextBesideFaults(t *testing.T) {
	b := assemble("pop; nil; jump @1; jump @1000; answer; else @1000 @1000; nil")
	checkSuccessors(t, b, 0, 1)
	checkSuccessors(t, b, 1, 2)
	checkSuccessors(t, b, 2, 1)
	checkNextError(t, b, 3, api.ErrCode)
	checkSuccessors(t, b, 4)
	checkNextError(t, b, 5, api.ErrCode)
	checkNextError(t, b, 6, api.ErrCode)
}

// TestNextTargets: promise FL1, ErrCode for each operand of a Jump and an Else that is not the offset of an
// instruction, among them the middle and the end of one and of all.
func TestNextTargets(t *testing.T) {
	good := map[int]int{0: 0, 2: 1, 5: 2, 10: 3, 11: 4}
	for a := range 65536 {
		b := assemble("lit 0; jump 0; else 0 0; join; me")
		b[3], b[4] = byte(a/256), byte(a%256)
		b[6], b[7] = b[3], b[4]
		target, ok := good[a]
		if !ok {
			checkNextError(t, b, 1, api.ErrCode)
			checkNextError(t, b, 2, api.ErrCode)
			continue
		}
		checkSuccessors(t, b, 1, target)
		want := []int{target, 3}
		slices.Sort(want)
		checkSuccessors(t, b, 2, slices.Compact(want)...)
	}
}

// TestNextLast: promise FL1, ErrCode for each instruction that needs a next one and is the last.
func TestNextLast(t *testing.T) {
	for _, line := range []string{"self", "nil", "true", "false", "lit 0", "temp 0 0", "set 0 0", "var 0", "put 0", "pop",
		"dup", "send 0 0", "super 0 0", "join", "block 0", "class 0", "else 0 0"} {
		b := assemble("join; " + line)
		checkNextError(t, b, 1, api.ErrCode)
		checkSuccessors(t, b, 0, 1)
	}
}

// TestNextNumbers: promise FL1, ErrRange for all numbers that are of no instruction, also in code of no bytes.
func TestNextNumbers(t *testing.T) {
	for _, b := range [][]byte{nil, {}, assemble("me"), assemble("lit 0; pop; me"), assemble("jump 0"), assemble(repeated("join", 511) + "me")} {
		n := 0
		if l, _ := refDecode(b); l != nil {
			n = len(l)
		}
		for _, i := range []int{math.MinInt, math.MinInt + 1, -1 << 32, -512, -2, -1, n, n + 1, n + 255, 512, 513, 1 << 16, 1 << 32, math.MaxInt - 1, math.MaxInt} {
			checkNextError(t, b, i, api.ErrRange)
		}
		for i := range n {
			if _, err := flow.Next(b, i); err != nil {
				t.Errorf("Next(%x, %d): %v", b, i, err)
			}
		}
	}
}

// TestNextOrder: promise FL1, if several errors apply, ErrLong is before all others, ErrCode for bytes that are
// no encoding before ErrRange, and this before ErrCode for a successor.
func TestNextOrder(t *testing.T) {
	long := bytes.Repeat([]byte{21}, 513)
	fits := bytes.Repeat([]byte{21}, 512)
	for _, i := range []int{-1, 0, 511, 512, 513, math.MaxInt} {
		checkNextError(t, long, i, api.ErrLong)
		checkNextError(t, assemble(repeated("join", 512)+"me"), i, api.ErrLong)
		checkNextError(t, fits, i, api.ErrCode)
	}
	for _, b := range [][]byte{{21}, {255}, {4}, {13, 0}, {14, 0, 0, 0}, {15, 15, 11, 1}} {
		for _, i := range []int{-1, 0, 1, 2, 3, 4} {
			checkNextError(t, b, i, api.ErrCode)
		}
	}
	for _, line := range []string{"jump @9", "else @9 @9", "nil"} {
		b := assemble("join; " + line)
		checkNextError(t, b, -1, api.ErrRange)
		checkNextError(t, b, 1, api.ErrCode)
		checkNextError(t, b, 2, api.ErrRange)
		checkNextError(t, b, 3, api.ErrRange)
	}
}

// TestNextBytes: promise FL1, all sequences of one and two bytes, and random ones that often hold
// instructions.
func TestNextBytes(t *testing.T) {
	for c := range 256 {
		checkNext(t, []byte{byte(c)})
		for d := range 256 {
			checkNext(t, []byte{byte(c), byte(d)})
		}
	}
	source := rand.New(rand.NewPCG(8, 1))
	instructions := 0
	for range 30000 {
		b := make([]byte, source.IntN(20))
		for i := range b {
			b[i] = byte(source.IntN([]int{21, 22, 12}[source.IntN(3)]))
		}
		instructions += checkNext(t, b)
	}
	if instructions < 50000 {
		t.Errorf("only %d instructions", instructions)
	}
}
