// Package lattice is layer 1: finite lattices of security levels: see shared/doc/01-lattice.md.
package lattice

import (
	"bytes"
	"math/bits"
	"slices"

	"colloquy/api"
)

// Lat is a lattice: level a is at or below level b if bit b of Up[a] is set.
type Lat struct{ Up []uint8 }

// Check returns ErrLattice if l is not valid.
func Check(l Lat) error {
	if !l.valid() {
		return api.ErrLattice
	}
	return nil
}

// Leq reports whether level a is at or below level b.
func (l Lat) Leq(a, b int) bool {
	return l.canCompare(a, b) && l.below(a, b)
}

// Join returns the least level that a and b are at or below, or 0.
func (l Lat) Join(a, b int) int {
	if !l.canCompare(a, b) {
		return 0
	}
	return l.findJoin(a, b)
}

// Meet returns the greatest level that is at or below a and b, or 0.
func (l Lat) Meet(a, b int) int {
	if !l.canCompare(a, b) {
		return 0
	}
	return l.flip().findJoin(a, b)
}

// Bottom returns the level that is at or below all levels, or 0.
func (l Lat) Bottom() int {
	if !l.valid() {
		return 0
	}
	return l.findBottom()
}

// Top returns the level that all levels are at or below, or 0.
func (l Lat) Top() int {
	if !l.valid() {
		return 0
	}
	return l.flip().findBottom()
}

// Chain returns the lattice of n levels, each of them below the next one.
func Chain(n int) (Lat, error) {
	if n < 1 || n > api.MaxLevels {
		return Lat{}, api.ErrArg
	}
	up := make([]uint8, n)
	for a := range up {
		for b := a; b < n; b++ {
			up[a] |= 1 << b
		}
	}
	return Lat{up}, nil
}

// Square returns the lattice in which 1 and 2 lie between 0 and 3, and are not comparable.
func Square() Lat {
	return Lat{[]uint8{0b1111, 0b1010, 0b1100, 0b1000}}
}

// Same reports whether two Lats, valid or not, have equal Up.
func Same(a, b Lat) bool {
	return bytes.Equal(a.Up, b.Up)
}

// valid does not look for meets: in a finite order with a bottom level and all joins, the join of
// the levels that are at or below two levels is the meet of these two.
func (l Lat) valid() bool {
	n := len(l.Up)
	return n >= 1 && n <= api.MaxLevels && l.isOrder() && l.findBottom() >= 0 && l.hasJoins()
}

func (l Lat) canCompare(a, b int) bool {
	return l.isLevel(a) && l.isLevel(b) && l.valid()
}

func (l Lat) isLevel(a int) bool {
	return a >= 0 && a < len(l.Up)
}

// below is Leq without its conditions.
func (l Lat) below(a, b int) bool {
	return l.Up[a]>>b&1 == 1
}

func (l Lat) isOrder() bool {
	for a, up := range l.Up {
		if up>>len(l.Up) != 0 || !l.below(a, a) {
			return false
		}
		for b, over := range l.Up {
			if a == b || !l.below(a, b) {
				continue
			}
			if l.below(b, a) || over&^up != 0 {
				return false
			}
		}
	}
	return true
}

func (l Lat) hasJoins() bool {
	for a := range l.Up {
		for b := range a {
			if l.findJoin(a, b) < 0 {
				return false
			}
		}
	}
	return true
}

// findJoin returns -1 if there is no join. In an order, the levels that both a and b are at or
// below are exactly the levels that their join is at or below.
func (l Lat) findJoin(a, b int) int {
	return bytes.IndexByte(l.Up, l.Up[a]&l.Up[b])
}

// findBottom returns -1 if there is no bottom level.
func (l Lat) findBottom() int {
	return slices.IndexFunc(l.Up, func(up uint8) bool {
		return bits.OnesCount8(up) == len(l.Up)
	})
}

// flip returns the same levels in the opposite order, where a meet is a join and the top level is
// the bottom level.
func (l Lat) flip() Lat {
	down := make([]uint8, len(l.Up))
	for a := range down {
		for b := range down {
			if l.below(b, a) {
				down[a] |= 1 << b
			}
		}
	}
	return Lat{down}
}
