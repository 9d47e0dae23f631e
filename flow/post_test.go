package flow_test

import (
	"math/rand/v2"
	"slices"
	"strconv"
	"strings"
	"testing"

	"colloquy/api"
	"colloquy/flow"
)

func checkPost(t *testing.T, text string, want ...int) {
	t.Helper()
	got, err := flow.Post(assemble(text))
	if errno(t, err) != 0 || !slices.Equal(got, want) {
		t.Errorf("Post(%s): %d, %v, want %d", text, got, err, want)
	}
}

// TestPostStraight: promise FL2, in code without branches each instruction is followed by the next one, and
// nothing follows an end.
func TestPostStraight(t *testing.T) {
	checkPost(t, "nil; answer", 1, -1)
	checkPost(t, "nil; home", 1, -1)
	checkPost(t, "me", -1)
	checkPost(t, "self; lit 3; dup; send 4 1; set 0 0; put 5; block 1; home", 1, 2, 3, 4, 5, 6, 7, -1)
	checkPost(t, repeated("join", 511)+"me", append(countTo(512)[1:], -1)...)
}

// TestPostBranches: promise FL2, branches that meet again, that are in one another, and that do not meet
// again.
func TestPostBranches(t *testing.T) {
	checkPost(t, "true; else 4 5; nil; jump 5; self; join; answer", 1, 5, 3, 5, 5, 6, -1)
	checkPost(t, "true; else 3 3; join; join; me", 1, 3, 3, 4, -1)
	checkPost(t, "true; else 2 2; join; me", 1, 2, 3, -1)
	checkPost(t, "true; else 4 5; nil; answer; me; join; me", 1, -1, 3, -1, -1, 6, -1)
	checkPost(t, "true; else 9 10; false; else 6 7; nil; jump 7; self; join; jump 10; nil; join; answer",
		1, 10, 3, 7, 5, 7, 7, 8, 10, 10, 11, -1)
	checkPost(t, "true; else 6 7; false; else 6 7; nil; answer; nil; join; answer", 1, -1, 3, -1, 5, -1, 7, 8, -1)
}

// TestPostNotJoin: promise FL2, what follows is told by the paths, not by the operand B of an Else.
func TestPostNotJoin(t *testing.T) {
	checkPost(t, "true; else 3 6; join; nil; pop; me; join; me", 1, 3, 3, 4, 5, -1, 7, -1)
	checkPost(t, "true; else 3 4; join; me; join; me", 1, 3, 3, -1, 5, -1)
	checkPost(t, "join; true; else 0 0; me", 1, 2, 3, -1)
}

// TestPostLoops: promise FL2, loops with one exit and with two, and a loop around the first instruction.
func TestPostLoops(t *testing.T) {
	checkPost(t, "true; else 5 5; nil; pop; jump 0; join; me", 1, 5, 3, 4, 0, 6, -1)
	checkPost(t, "join; true; else 6 6; true; else 8 6; jump 0; join; jump 8; join; me", 1, 2, 8, 4, 8, 0, 7, 8, 9, -1)
	checkPost(t, "join; true; else 5 3; join; me; true; else 0 3; me", 1, 2, -1, 4, -1, 6, -1, -1)
	checkPost(t, "jump 4; me; jump 1; jump 2; jump 3", 4, -1, 1, 2, 3)
}

// TestPostNoEnd: promise FL2, -1 where no path reaches an end: a Jump to itself, loops, and what leads to
// them only. A way into such a loop is no path to an end, so that it does not count elsewhere.
func TestPostNoEnd(t *testing.T) {
	checkPost(t, "jump 0", -1)
	checkPost(t, "nil; pop; jump 2", -1, -1, -1)
	checkPost(t, "nil; pop; jump 0; me", -1, -1, -1, -1)
	checkPost(t, "true; else 0 2; join; jump 2", -1, -1, -1, -1)
	checkPost(t, "true; else 3 4; jump 2; jump 3; join; me", -1, -1, -1, -1, 5, -1)
	checkPost(t, "true; else 3 3; jump 2; join; me", 1, 3, -1, 4, -1)
	checkPost(t, "true; else 6 5; true; else 5 5; jump 4; join; jump 7; me", 1, 6, 3, 5, -1, 6, 7, -1)
	checkPost(t, "jump 1; true; else 1 3; join; jump 4", -1, -1, -1, -1, -1)
}

// TestPostFirst: promise FL2, of several instructions that lie on every path the first one is meant, wherever
// it stands, also if a path comes to others again.
func TestPostFirst(t *testing.T) {
	checkPost(t, "jump 3; join; me; join; jump 1", 3, 2, -1, 4, 1)
	checkPost(t, "true; else 4 4; jump 7; me; join; join; jump 7; true; else 4 9; join; jump 3", 1, 7, 7, -1, 5, 6, 7, 8, 9, 10, 3)
}

// TestPostUnreachable: promise FL2, an instruction that is not reachable has a postdominator like all others.
func TestPostUnreachable(t *testing.T) {
	checkPost(t, "me; me", -1, -1)
	checkPost(t, "me; pop; answer", -1, 2, -1)
	checkPost(t, "jump 3; pop; else 1 4; me; join; jump 3", 3, 2, 3, -1, 5, 3)
	checkPost(t, "jump 3; pop; jump 2; me", 3, -1, -1, -1)
	checkPost(t, "me; jump 3; me; jump 0", -1, 3, -1, 0)
}

// TestPostLong: promise FL2, chains of jumps through as many instructions as fit, forwards and backwards, and
// a chain of loops.
func TestPostLong(t *testing.T) {
	back, want := "jump 169; me", []int{169, -1}
	for i := 2; i < 170; i++ {
		back += "; jump " + strconv.Itoa(i-1)
		want = append(want, i-1)
	}
	checkPost(t, back, want...)
	loops := ""
	want = nil
	for i := 0; i < 146; i += 2 {
		loops += "true; else " + strconv.Itoa(i) + " 146; "
		want = append(want, i+1, i+2)
	}
	checkPost(t, loops+"join; me", append(want, 147, -1)...)
	for _, text := range []string{back, loops + "join; me"} {
		if e := checkDefinition(t, assemble(text)); e != 0 {
			t.Errorf("%s: %v", text, e)
		}
	}
}

// TestPieces: promises FL1 and FL2, all code of up to four pieces of all kinds with all targets.
func TestPieces(t *testing.T) {
	count := 0
	for n := range 5 {
		var choices [][2]int
		for kind := range kinds {
			choices = append(choices, [2]int{kind, 0})
			for target := 1; target <= n && (kind == 2 || kind == 3); target++ {
				choices = append(choices, [2]int{kind, target})
			}
		}
		forLists(n, choices, func(list [][2]int) {
			count++
			if e := checkDefinition(t, joined(list)); e != 0 {
				t.Fatalf("%x: %v", joined(list), e)
			}
		})
	}
	if want := 1 + 8 + 10*10 + 12*12*12 + 14*14*14*14; count != want {
		t.Errorf("%d lists, want %d", count, want)
	}
}

// forLists calls f with all lists of n choices.
func forLists[E any](n int, choices []E, f func([]E)) {
	list := make([]E, n)
	var fill func(int)
	fill = func(i int) {
		if i == n {
			f(list)
			return
		}
		for _, c := range choices {
			list[i] = c
			fill(i + 1)
		}
	}
	fill(0)
}

// TestShort: promises FL1 and FL2, all code of up to four of nine instructions, with all targets within it; the
// operand B of an Else is the first instruction or the last but one.
func TestShort(t *testing.T) {
	counts := map[api.Errno]int{}
	for n := 1; n < 5; n++ {
		lines := []string{"nil", "pop", "dup", "send 0 1", "join", "answer", "me"}
		for a := range n {
			target, join := strconv.Itoa(a), strconv.Itoa(max(0, n-2))
			lines = append(lines, "jump "+target, "else "+target+" 0", "else "+target+" "+join)
		}
		forLists(n, lines, func(list []string) {
			counts[checkDefinition(t, assemble(strings.Join(list, "; ")))]++
		})
	}
	if counts[0] < 3000 || counts[api.ErrCode] < 5000 {
		t.Errorf("code by error: %d", counts)
	}
}

// TestRandom: promises FL1 and FL2, random code as from a compiler and with random targets, and the same
// code damaged once and twice.
func TestRandom(t *testing.T) {
	source := rand.New(rand.NewPCG(8, 2))
	counts := map[api.Errno]int{}
	for n := range 480 {
		b := structured(source, 1+n%8, n%4)
		if n%3 == 0 {
			b = tangled(source, 1+n%16)
		}
		if e := checkDefinition(t, b); e != 0 {
			t.Fatalf("%x: %v", b, e)
		}
		for range 3 {
			counts[checkDefinition(t, damaged(source, b))]++
		}
		counts[checkDefinition(t, damaged(source, damaged(source, b)))]++
	}
	if counts[0] < 500 || counts[api.ErrCode] < 500 {
		t.Errorf("damaged code by error: %d", counts)
	}
}

// TestRandomLong: promises FL1 and FL2, random code of about as many bytes as fit.
func TestRandomLong(t *testing.T) {
	source := rand.New(rand.NewPCG(8, 3))
	long := 0
	for range 12 {
		for _, b := range [][]byte{structured(source, 60, 4), tangled(source, 118)} {
			if len(b) <= 512 && checkDefinition(t, b) != 0 {
				t.Fatalf("%x is not well-formed", b)
			}
			if len(b) > 400 && len(b) <= 512 {
				long++
			}
		}
	}
	if long < 20 {
		t.Errorf("only %d are long", long)
	}
}
