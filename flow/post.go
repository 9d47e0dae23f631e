package flow

import (
	"slices"

	"colloquy/api"
)

const wordBits = 64

// set is a set of instructions, a bit for each number. It has a word more than their numbers need, so that no
// code has the instructions of the set with all bits.
type set [api.MaxCode/wordBits + 1]uint64

// postdominators returns the number of each instruction's immediate postdominator, or -1 if there is none.
func postdominators(graph [][]int) []int {
	sets := onEveryPath(graph)
	post := make([]int, len(graph))
	for i, s := range sets {
		// The postdominators of an instruction lie behind one another, so that those of the immediate
		// one are all of the instruction's own but the instruction.
		post[i] = slices.Index(sets, s.without(i))
	}
	return post
}

// onEveryPath returns, for each instruction, the set of those that lie on every path from it to an end, with
// itself. If there is no such path, the set has all bits.
func onEveryPath(graph [][]int) []set {
	sets := slices.Repeat([]set{all()}, len(graph))
	for changed := true; changed; {
		changed = false
		for i, successors := range slices.Backward(graph) {
			s := behind(sets, successors).with(i)
			changed = changed || s != sets[i]
			sets[i] = s
		}
	}
	return sets
}

// behind returns what lies on every path from each of the successors of an instruction. There is nothing
// behind an end.
func behind(sets []set, successors []int) set {
	if len(successors) == 0 {
		return set{}
	}
	common := all()
	for _, s := range successors {
		common = common.and(sets[s])
	}
	return common
}

func all() set {
	var s set
	for i := range s {
		s[i] = ^uint64(0)
	}
	return s
}

func (s set) and(t set) set {
	for i := range s {
		s[i] &= t[i]
	}
	return s
}

func (s set) with(i int) set {
	s[i/wordBits] |= 1 << (i % wordBits)
	return s
}

func (s set) without(i int) set {
	s[i/wordBits] &^= 1 << (i % wordBits)
	return s
}
