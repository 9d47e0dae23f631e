package lattice_test

import "math"

// The functions of this file follow the definitions of chapter 1 word by word and share no
// shortcut with the package.

func refLeq(up []uint8, a, b int) bool {
	return up[a]&(1<<b) != 0
}

// refJoin returns the levels that are a join of a and b by the definition.
func refJoin(up []uint8, a, b int) []int {
	var found []int
	for c := range up {
		least := refLeq(up, a, c) && refLeq(up, b, c)
		for d := range up {
			if refLeq(up, a, d) && refLeq(up, b, d) && !refLeq(up, c, d) {
				least = false
			}
		}
		if least {
			found = append(found, c)
		}
	}
	return found
}

// refMeet returns the levels that are a meet of a and b by the definition.
func refMeet(up []uint8, a, b int) []int {
	var found []int
	for c := range up {
		greatest := refLeq(up, c, a) && refLeq(up, c, b)
		for d := range up {
			if refLeq(up, d, a) && refLeq(up, d, b) && !refLeq(up, d, c) {
				greatest = false
			}
		}
		if greatest {
			found = append(found, c)
		}
	}
	return found
}

func refValid(up []uint8) bool {
	if len(up) < 1 || len(up) > 8 {
		return false
	}
	for a := range up {
		for bit := len(up); bit < 8; bit++ {
			if refLeq(up, a, bit) {
				return false
			}
		}
		if !refLeq(up, a, a) {
			return false
		}
	}
	for a := range up {
		for b := range up {
			if a != b && refLeq(up, a, b) && refLeq(up, b, a) {
				return false
			}
			for c := range up {
				if refLeq(up, a, b) && refLeq(up, b, c) && !refLeq(up, a, c) {
					return false
				}
			}
		}
	}
	for a := range up {
		for b := range up {
			if len(refJoin(up, a, b)) == 0 || len(refMeet(up, a, b)) == 0 {
				return false
			}
		}
	}
	return true
}

// everyUp calls visit with every Up of n levels whose elements are below limit. If reflexive is
// set, it leaves out those in which a level is not at or below itself.
func everyUp(n int, limit int, reflexive bool, visit func(up []uint8)) {
	up := make([]uint8, n)
	var fill func(a int)
	fill = func(a int) {
		if a == n {
			visit(up)
			return
		}
		for x := range limit {
			if reflexive && x>>a&1 == 0 {
				continue
			}
			up[a] = uint8(x)
			fill(a + 1)
		}
	}
	fill(0)
}

// everyBounded calls visit with every relation on n levels in which level 0 is at or below all
// levels, all levels are at or below level n - 1, and no level is at or below a lower number.
// Every lattice of n levels is one of these up to the numbers of its levels.
func everyBounded(n int, visit func(up []uint8)) {
	type pair struct{ a, b int }
	var free []pair
	for a := 1; a < n-1; a++ {
		for b := a + 1; b < n-1; b++ {
			free = append(free, pair{a, b})
		}
	}
	for set := range 1 << len(free) {
		up := make([]uint8, n)
		for a := range up {
			up[a] = 1<<a | 1<<(n-1)
			up[0] |= 1 << a
		}
		for i, p := range free {
			if set>>i&1 == 1 {
				up[p.a] |= 1 << p.b
			}
		}
		visit(up)
	}
}

// renumber gives level a the number order[a].
func renumber(up []uint8, order []int) []uint8 {
	out := make([]uint8, len(up))
	for a := range up {
		for b := range up {
			if refLeq(up, a, b) {
				out[order[a]] |= 1 << order[b]
			}
		}
	}
	return out
}

// noLevels returns numbers that are not those of one of n levels.
func noLevels(n int) []int {
	return []int{math.MinInt, -1 << 32, -256, -8, -1, n, n + 1, 8, 64, 256, 1 << 32, math.MaxInt}
}
