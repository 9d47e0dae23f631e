package heap_test

import (
	"math"
	"math/rand/v2"
	"slices"
	"strings"

	"colloquy/api"
	"colloquy/heap"
	"colloquy/lattice"
	"colloquy/object"
)

// most is the greatest size limit.
const most = 1 << 20

// lats returns valid lattices of 1 to 8 levels, with their bottom level at several places.
func lats() []lattice.Lat {
	var l []lattice.Lat
	for _, up := range [][]uint8{
		{1},
		{0b11, 0b10},
		{0b01, 0b11},
		{0b1111, 0b1010, 0b1100, 0b1000},
		{0b0011, 0b0010, 0b1111, 0b1010},
		{0b11111, 0b10010, 0b10100, 0b11000, 0b10000},
		{0x01, 0x03, 0x07, 0x0f, 0x1f, 0x3f, 0x7f, 0xff},
		{0xff, 0xaa, 0xcc, 0x88, 0xf0, 0xa0, 0xc0, 0x80},
	} {
		l = append(l, lattice.Lat{Up: up})
	}
	return l
}

// noLats returns Lats that are not valid.
func noLats() []lattice.Lat {
	l := []lattice.Lat{{}, {Up: []uint8{}}, {Up: make([]uint8, 9)}, {Up: make([]uint8, 1<<16)}}
	for _, up := range [][]uint8{
		{0},
		{0b11},
		{0b11, 0b11},
		{0b01, 0b10},
		{0b011, 0b110, 0b100},
		{0b111, 0b010, 0b100},
		{0b101, 0b110, 0b100},
		{0xff, 0xfe, 0xfc, 0xf8, 0xf0, 0xe0, 0xc0, 0x80, 0x80},
	} {
		l = append(l, lattice.Lat{Up: up})
	}
	return l
}

func number(n, level int) api.Val {
	return api.Val{K: 3, N: n, L: level}
}

// numbers returns n Ints at a level.
func numbers(n, level int) []api.Val {
	var l []api.Val
	for i := range n {
		l = append(l, number(i, level))
	}
	return l
}

func ref(i int) api.Val {
	return api.Val{K: 4, N: i}
}

// refs returns Refs to objects.
func refs(numbers ...int) []api.Val {
	var l []api.Val
	for _, i := range numbers {
		l = append(l, ref(i))
	}
	return l
}

// values returns valid values of each kind, at the ends of what they may be, at a level.
func values(level int) []api.Val {
	l := []api.Val{{K: 0}, {K: 1}, {K: 2}, {K: 3}, {K: 3, N: -1}, {K: 3, N: 1<<61 - 1}, {K: 3, N: -1 << 61},
		{K: 4}, {K: 4, N: 1}, {K: 4, N: 65535}, {K: 5}, {K: 5, N: 63}}
	for i := range l {
		l[i].L = level
	}
	return l
}

// noValues returns values that are not valid for so many levels, each for one reason.
func noValues(levels int) []api.Val {
	l := []api.Val{{K: 0, N: 1}, {K: 0, N: -1}, {K: 1, N: 1}, {K: 2, N: 1}, {K: 3, N: 1 << 61}, {K: 3, N: -1<<61 - 1},
		{K: 3, N: math.MaxInt}, {K: 3, N: math.MinInt}, {K: 4, N: -1}, {K: 4, N: 65536}, {K: 4, N: 1 << 32}, {K: 5, N: -1},
		{K: 5, N: 64}, {K: 6}, {K: 7}, {K: 255}}
	for _, level := range noLevels(levels) {
		l = append(l, api.Val{K: 0, L: level}, number(7, level), api.Val{K: 4, N: 2, L: level})
	}
	return l
}

// noLevels returns numbers that are not those of one of so many levels.
func noLevels(levels int) []int {
	return append(outside(levels), -8, 8, 256)
}

// noLimits returns numbers that are not size limits.
func noLimits() []int {
	return outside(most + 1)
}

// outside returns numbers that are not from 0 to n - 1.
func outside(n int) []int {
	return []int{math.MinInt, -1 << 32, -65536, -2, -1, n, n + 1, n + 65536, n + 1<<32, math.MaxInt}
}

// objects returns valid objects for so many levels.
func objects(levels int) []object.Obj {
	top := levels - 1
	return []object.Obj{
		{},
		{Class: 63, Level: top},
		{Class: 5, B: "a"},
		{Class: 2, Level: top, B: strings.Repeat("9", 1024)},
		{Class: 5, Level: top / 2, B: "\x00\xff\xc3"},
		{Class: 6, F: []api.Val{{}}},
		{Class: 10, Level: top / 2, F: []api.Val{number(0, top/2)}},
		{Class: 6, Level: top, F: append(values(top), values(0)...)},
		{Class: 6, F: numbers(256, top)},
		{Class: 11, Level: top, F: numbers(256, 0)},
	}
}

// noObjects returns objects that are not valid for so many levels, each for one reason.
func noObjects(levels int) []object.Obj {
	l := []object.Obj{
		{F: numbers(257, 0)},
		{F: numbers(1<<16, 0)},
		{B: strings.Repeat("b", 1025)},
		{B: strings.Repeat("b", 1<<16)},
		{F: numbers(1, 0), B: "b"},
		{F: numbers(256, 0), B: strings.Repeat("b", 1024)},
	}
	for _, class := range outside(64) {
		l = append(l, object.Obj{Class: class})
	}
	for _, level := range noLevels(levels) {
		l = append(l, object.Obj{Level: level})
	}
	for i, v := range noValues(levels) {
		f := numbers(2+i%4, 0)
		f[i%len(f)] = v
		l = append(l, object.Obj{Class: 6, F: f})
	}
	return l
}

// indexed returns Items of objects, with numbers from first on, each with the Hash that it has if they are added
// in this order, and the counts.
func indexed(levels, first int, l []object.Obj) ([]heap.Item, []int) {
	var items []heap.Item
	counts := make([]int, levels)
	for i, o := range l {
		items = append(items, heap.Item{I: first + i, Hash: counts[o.Level], O: cloneObj(o)})
		counts[o.Level]++
	}
	return items, counts
}

func pick[E any](source *rand.Rand, l []E) E {
	return l[source.IntN(len(l))]
}

// randomVal returns a valid value, often a Ref to one of the objects with small numbers.
func randomVal(source *rand.Rand, levels int) api.Val {
	if source.IntN(2) == 0 {
		return api.Val{K: 4, N: source.IntN(16), L: source.IntN(levels)}
	}
	return pick(source, values(source.IntN(levels)))
}

// randomVals returns up to n valid values.
func randomVals(source *rand.Rand, levels, n int) []api.Val {
	var l []api.Val
	for range source.IntN(n + 1) {
		l = append(l, randomVal(source, levels))
	}
	return l
}

// random returns a valid object.
func random(source *rand.Rand, levels int) object.Obj {
	o := object.Obj{Class: source.IntN(64), Level: source.IntN(levels)}
	if source.IntN(4) == 0 {
		o.B = strings.Repeat("x", source.IntN(30))
	} else {
		o.F = randomVals(source, levels, 5)
	}
	return o
}

// randomRoots returns up to four lists of values.
func randomRoots(source *rand.Rand, levels int) [][]api.Val {
	var roots [][]api.Val
	for range source.IntN(5) {
		roots = append(roots, randomVals(source, levels, 6))
	}
	return roots
}

// randomQuota returns quotas for some of the levels, most of them small.
func randomQuota(source *rand.Rand, levels int) []int {
	var quota []int
	for range source.IntN(levels + 1) {
		quota = append(quota, pick(source, []int{0, 1, 2, 10, 20, 40, 60, 80, 200, most}))
	}
	return quota
}

// roomy returns a copy of l with spare capacity that is not zero.
func roomy[E any](l []E, spare int, filler E) []E {
	return append(slices.Clone(l), slices.Repeat([]E{filler}, spare)...)[:len(l)]
}

// whole returns l and its spare capacity.
func whole[E any](l []E) []E {
	return l[:cap(l)]
}

// cloneObj returns a copy of o that shares no fields with it.
func cloneObj(o object.Obj) object.Obj {
	o.F = slices.Clone(o.F)
	return o
}

func cloneItems(l []heap.Item) []heap.Item {
	l = slices.Clone(l)
	for i := range l {
		l[i].O = cloneObj(l[i].O)
	}
	return l
}
