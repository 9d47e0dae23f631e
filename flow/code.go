package flow

import (
	"slices"

	"colloquy/api"
	"colloquy/op"
)

const unreachable = -1

// code is decoded: its instructions, and the offset at which each one begins.
type code struct {
	ops     []op.Op
	offsets []int
}

func decode(b []byte) (code, error) {
	ops, offsets, err := op.Decode(b)
	if err != nil {
		return code{}, err
	}
	return code{ops, offsets}, nil
}

// graph returns the successors of each instruction. It returns false if there is no instruction, or if one
// lacks a successor or its Join.
func (c code) graph() ([][]int, bool) {
	if len(c.ops) == 0 {
		return nil, false
	}
	graph := make([][]int, len(c.ops))
	for i, o := range c.ops {
		successors, ok := c.successors(i)
		if !ok || o.Code == op.Else && !c.isJoin(o.B) {
			return nil, false
		}
		graph[i] = successors
	}
	return graph, true
}

// successors returns those of instruction i in increasing order, or false if there should be one that there
// is not.
func (c code) successors(i int) ([]int, bool) {
	var l []int
	o := c.ops[i]
	if continues(o) {
		if i+1 == len(c.ops) {
			return nil, false
		}
		l = append(l, i+1)
	}
	if o.Code == op.Jump || o.Code == op.Else {
		target, ok := c.at(o.A)
		if !ok {
			return nil, false
		}
		l = append(l, target)
	}
	slices.Sort(l)
	return slices.Compact(l), true
}

// continues reports whether the next instruction is a successor of this one.
func continues(o op.Op) bool {
	switch o.Code {
	case op.Answer, op.Me, op.Home, op.Jump:
		return false
	}
	return true
}

// at returns the number of the instruction that begins at an offset, or false if none does.
func (c code) at(offset int) (int, bool) {
	return slices.BinarySearch(c.offsets, offset)
}

func (c code) isJoin(offset int) bool {
	i, ok := c.at(offset)
	return ok && c.ops[i].Code == op.Join
}

// depths follows the graph from the first instruction on. It returns false if an instruction is reached with
// two depths, or if one finds too few values or leaves too many.
func (c code) depths(graph [][]int) ([]int, bool) {
	depths := slices.Repeat([]int{unreachable}, len(c.ops))
	depths[0] = 0
	for work := []int{0}; len(work) > 0; {
		i := work[len(work)-1]
		work = work[:len(work)-1]
		after, ok := depthAfter(c.ops[i], depths[i])
		if !ok {
			return nil, false
		}
		for _, s := range graph[i] {
			if depths[s] == unreachable {
				depths[s] = after
				work = append(work, s)
			}
			if depths[s] != after {
				return nil, false
			}
		}
	}
	return depths, true
}

// depthAfter returns the number of values on the stack after an instruction, given the number before it, or
// false if the instruction finds too few values or leaves too many.
func depthAfter(o op.Op, before int) (int, bool) {
	pops, pushes := effect(o)
	after := before - pops + pushes
	return after, pops <= before && after <= api.MaxStack
}

// effect returns how many values an instruction pops and how many it then pushes. What Dup needs counts as
// popped and pushed again.
func effect(o op.Op) (int, int) {
	switch o.Code {
	case op.Self, op.Nil, op.True, op.False, op.Lit, op.Temp, op.Var, op.Block, op.Class:
		return 0, 1
	case op.Dup:
		return 1, 2
	case op.Set, op.Put, op.Pop, op.Else, op.Answer, op.Home:
		return 1, 0
	case op.Send, op.Super:
		return o.B + 1, 1
	}
	return 0, 0
}
