package heap

import "colloquy/api"

// Collect removes the objects that are not reachable from the roots, and returns how many these were.
func (h *Heap) Collect(roots ...[]api.Val) int {
	if h == nil {
		return 0
	}
	before := h.n
	for i, isReached := range h.reached(roots) {
		if h.has(i) && !isReached {
			h.remove(i)
		}
	}
	return before - h.n
}

// reached reports for each number whether it is that of an object that is reachable from the roots.
func (h *Heap) reached(roots [][]api.Val) []bool {
	marks := make([]bool, len(h.slots))
	// The marked objects whose fields are still to be looked at; recursion would be as deep as the longest chain of
	// objects.
	var open []*Item
	mark := func(l []api.Val) {
		for _, v := range l {
			if v.K == api.Ref && h.has(v.N) && !marks[v.N] {
				marks[v.N] = true
				open = append(open, h.slots[v.N])
			}
		}
	}
	for _, l := range roots {
		mark(l)
	}
	for len(open) > 0 {
		last := open[len(open)-1]
		open = open[:len(open)-1]
		mark(last.O.F)
	}
	return marks
}
