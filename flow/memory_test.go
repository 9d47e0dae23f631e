package flow_test

import (
	"bytes"
	"math/rand/v2"
	"slices"
	"testing"

	"colloquy/flow"
)

// roomy returns a copy of b with so many bytes of spare capacity that are not 0.
func roomy(b []byte, spare int) []byte {
	return append(slices.Clone(b), bytes.Repeat([]byte{0xa5}, spare)...)[:len(b)]
}

// whole returns l and its spare capacity.
func whole[E any](l []E) []E {
	return l[:cap(l)]
}

// checkApart fills each of the slices with a number of its own, spare capacity included, and checks that this
// changed no other.
func checkApart(t *testing.T, list ...[]int) {
	t.Helper()
	for i, l := range list {
		for j := range whole(l) {
			whole(l)[j] = -100 - i
		}
	}
	for i, l := range list {
		for _, n := range whole(l) {
			if n != -100-i {
				t.Fatalf("%d shares memory with another slice: %d", i, n)
			}
		}
	}
}

// codes returns well-formed code, code that is not, bytes that are no code, and too many bytes.
func codes() [][]byte {
	source := rand.New(rand.NewPCG(8, 6))
	all := [][]byte{nil, {}, {21}, {1, 9}, {18}, {13, 0, 0}, {14, 0, 0, 0, 0}, assemble("true; else 3 3; me; join; me"),
		assemble(repeated("join", 99) + "me"), assemble(repeated("join", 512) + "me"), bytes.Repeat([]byte{21}, 513)}
	for n := range 60 {
		b := tangled(source, 1+n%20)
		all = append(all, b, damaged(source, b), structured(source, 1+n%10, n%3))
	}
	return all
}

// results returns those of all functions: of Depths, of Post, and of Next for each instruction and some other
// numbers.
func results(b []byte) [][]int {
	depths, _ := flow.Depths(b)
	post, _ := flow.Post(b)
	all := [][]int{depths, post}
	l, _ := refDecode(b)
	for i := -1; i <= len(l); i++ {
		next, _ := flow.Next(b, i)
		all = append(all, next)
	}
	return all
}

// cloned returns copies of the lists.
func cloned(lists [][]int) [][]int {
	var all [][]int
	for _, l := range lists {
		all = append(all, slices.Clone(l))
	}
	return all
}

func equal(a, b [][]int) bool {
	return slices.EqualFunc(a, b, slices.Equal)
}

// TestKeepsArgument: promise P8 and general rules 3 and 4, no function changes its argument, well-formed or
// not, nor what stands behind it, and each returns the same again.
func TestKeepsArgument(t *testing.T) {
	for _, code := range codes() {
		for _, spare := range []int{0, 1, 100} {
			b := roomy(code, spare)
			want := slices.Clone(whole(b))
			checkDefinition(t, b)
			checkDefinition(t, b)
			if !bytes.Equal(whole(b), want) {
				t.Fatalf("%x became %x", want, whole(b))
			}
		}
	}
}

// TestNewResults: promise P8 and general rules 3 and 4, no two results share memory, spare capacity included,
// and what becomes of them or of the argument has no effect on the next call.
func TestNewResults(t *testing.T) {
	for _, code := range codes() {
		b := roomy(code, 20)
		first, second := results(b), results(b)
		kept := cloned(first)
		for i := range whole(b) {
			whole(b)[i] ^= 0x55
		}
		if !equal(first, kept) || !equal(second, kept) {
			t.Fatalf("a function keeps its argument: %d, %d, want %d", first, second, kept)
		}
		checkApart(t, append(first, second...)...)
		checkDefinition(t, code)
	}
}

// TestReused: promise P8 and general rule 4, a slice that held other code before is taken as it is now.
func TestReused(t *testing.T) {
	var b []byte
	for _, code := range codes() {
		b = append(b[:0], code...)
		checkDefinition(t, b)
	}
}
