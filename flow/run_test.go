package flow_test

import (
	"math/rand/v2"
	"slices"
	"strings"
	"testing"

	"colloquy/flow"
)

// run executes code as far as the stack and the branches go, each condition being chosen at random, and checks
// that every instruction finds the values that it needs, as many as Depths says, and that no more than 32 are
// ever on the stack. It returns the number of instructions executed.
func run(t *testing.T, source *rand.Rand, b []byte, depths []int, fuel int) int {
	t.Helper()
	l, _ := refDecode(b)
	var stack []int
	i, steps := 0, 0
	for ; steps < fuel; steps++ {
		d := l[i]
		if len(stack) < d.needs || len(stack) > 32 || len(stack) != depths[i] {
			t.Fatalf("%x: %d values before instruction %d, %s: Depths %d", b, len(stack), i, d.name, depths)
		}
		stack = stack[:len(stack)-d.pops]
		for range d.pushes {
			stack = append(stack, i)
		}
		at := d.at + len(encodingAt(b, d.at))
		switch d.name {
		case "answer", "me", "home":
			return steps + 1
		case "jump":
			at = d.a
		case "else":
			if source.IntN(2) == 0 {
				at = d.a
			}
		}
		i = refAt(l, at)
	}
	return steps
}

// encodingAt returns the encoding of the instruction that begins at an offset.
func encodingAt(b []byte, at int) []byte {
	return b[at : at+refSize(b[at])]
}

// checkRuns runs code several times if it is well-formed. It returns the number of instructions executed.
func checkRuns(t *testing.T, source *rand.Rand, b []byte) int {
	t.Helper()
	if flow.Check(b) != nil {
		return 0
	}
	depths, err := flow.Depths(b)
	if err != nil {
		t.Fatalf("Depths(%x): %v", b, err)
	}
	steps := 0
	for range 6 {
		steps += run(t, source, b, depths, 300)
	}
	return steps
}

// TestRun: promise FL3, well-formed code runs, whatever branches it takes: random code, and damaged code that
// is still well-formed.
func TestRun(t *testing.T) {
	source := rand.New(rand.NewPCG(8, 4))
	intact, after := 0, 0
	for n := range 1000 {
		for _, b := range [][]byte{structured(source, 1+n%12, n%6), tangled(source, 1+n%40)} {
			intact += checkRuns(t, source, b)
			for range 10 {
				after += checkRuns(t, source, damaged(source, b))
			}
		}
	}
	if intact < 100000 || after < 100000 {
		t.Errorf("only %d and %d instructions", intact, after)
	}
}

// TestRunShort: promise FL3, all code of up to five of some instructions that is well-formed runs.
func TestRunShort(t *testing.T) {
	source := rand.New(rand.NewPCG(8, 5))
	codes := []string{"nil", "pop", "dup", "send 0 1", "set 0 0", "answer", "me", "jump 0", "else 0 0", "join"}
	steps := 0
	for n := 1; n < 6; n++ {
		forLists(n, codes, func(list []string) {
			b := assemble(strings.Join(append(list, "me"), "; "))
			if at := slices.Index(list, "join"); at >= 0 {
				b = joinAt(b, list, at)
			}
			steps += checkRuns(t, source, b)
		})
	}
	if steps < 100000 {
		t.Errorf("only %d instructions", steps)
	}
}

// joinAt changes the operands of each Else to the offset of the instruction with a number.
func joinAt(b []byte, list []string, number int) []byte {
	l, _ := refDecode(b)
	for i, line := range list {
		if line == "else 0 0" {
			at := l[i].at
			b[at+2], b[at+4] = byte(l[number].at), byte(l[number].at)
		}
	}
	return b
}
