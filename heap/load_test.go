package heap_test

import (
	"math"
	"slices"
	"testing"

	"colloquy/api"
	"colloquy/heap"
	"colloquy/lattice"
	"colloquy/object"
)

func checkNoLoad(t *testing.T, l lattice.Lat, room int, quota []int, items []heap.Item, counts []int, want api.Errno) {
	t.Helper()
	if h, err := heap.Load(l, room, quota, items, counts); errno(t, err) != want || h != nil {
		t.Fatalf("Load of %v, %d, %v with %v and %v: %v, %v, want %v", l, room, quota, items, counts, h, err, want)
	}
}

// TestAll: promise HP4, written out: the objects in the order of their numbers, not in that of their addition, and
// the counts with the objects that were removed.
func TestAll(t *testing.T) {
	h := checkNew(t, lattice.Square(), most)
	checkAll(t, h, nil, []int{0, 0, 0, 0})
	for i, level := range []int{2, 0, 2, 1, 2} {
		checkAdd(t, h, object.Obj{Class: 20 + i, Level: level, F: numbers(i, 3)}, i, 0)
	}
	checkCollect(t, h, 3, refs(4, 1))
	checkAdd(t, h, object.Obj{Class: 5, Level: 1, B: "b"}, 0, 0)
	checkAll(t, h, []heap.Item{
		{I: 0, Hash: 1, O: object.Obj{Class: 5, Level: 1, B: "b"}},
		{I: 1, Hash: 0, O: object.Obj{Class: 21, Level: 0, F: numbers(1, 3)}},
		{I: 4, Hash: 2, O: object.Obj{Class: 24, Level: 2, F: numbers(4, 3)}},
	}, []int{1, 2, 3, 0})
	checkCollect(t, h, 3)
	checkAll(t, h, nil, []int{1, 2, 3, 0})
}

// TestLoad: promise HP4, any items with increasing numbers and any Hash below the counts, be it one that no Heap
// would give, and what is added behind them.
func TestLoad(t *testing.T) {
	items := []heap.Item{
		{I: 1, Hash: 6, O: object.Obj{Class: 6, Level: 2, F: refs(3, 1, 70)}},
		{I: 2, Hash: 0, O: object.Obj{Class: 5, Level: 0, B: "b"}},
		{I: 5, Hash: 6, O: object.Obj{Class: 63, Level: 2}},
		{I: 65535, Hash: math.MaxInt32 - 1, O: object.Obj{Class: 6, Level: 3, F: refs(5)}},
	}
	counts := []int{1, 9, 7, math.MaxInt32}
	h := checkLoad(t, lattice.Square(), most, []int{most, 3}, items, counts)
	want := loadRef(lattice.Square(), most, []int{most, 3}, items, counts)
	checkHeap(t, h, want)
	for _, e := range []struct{ words, level, i, hash int }{
		{2, 0, 0, 1}, {8, 2, 3, 7}, {3, 1, 4, 9}, {5, 2, 6, 8}, {5, 0, 7, 2},
	} {
		want.add(sized(e.words, e.level))
		checkAdd(t, h, sized(e.words, e.level), e.i, 0)
		checkObject(t, h, e.i, sized(e.words, e.level), e.hash)
		checkHeap(t, h, want)
	}
	checkAdd(t, h, object.Obj{Level: 1}, 0, api.ErrFull)
	checkPut(t, h, 1, 1, 0, ref(65535), want.put(t, 1, 1, 0, ref(65535)))
	checkPut(t, h, 65535, 0, 0, ref(2), want.put(t, 65535, 0, 0, ref(2)))
	want.collect([][]api.Val{refs(1)})
	checkCollect(t, h, 5, refs(1))
	checkHeap(t, h, want)
}

// TestLoadNothing: promise HP4, no items, with and without counts, in all lattices of the tests.
func TestLoadNothing(t *testing.T) {
	for _, l := range lats() {
		for _, n := range []int{0, 1, 1000, math.MaxInt32} {
			counts := slices.Repeat([]int{n}, len(l.Up))
			checkHeap(t, checkLoad(t, l, 0, nil, nil, counts), loadRef(l, 0, nil, nil, counts))
			h := checkLoad(t, l, 7, []int{2}, []heap.Item{}, counts)
			checkHeap(t, h, loadRef(l, 7, []int{2}, nil, counts))
			if n < math.MaxInt32 {
				checkAdd(t, h, object.Obj{}, 0, 0)
				checkObject(t, h, 0, object.Obj{}, n)
			}
		}
	}
}

// TestLoadObjects: promise HP4, valid objects in all lattices of the tests, at the first and the last numbers.
func TestLoadObjects(t *testing.T) {
	for _, l := range lats() {
		objs := objects(len(l.Up))
		for _, first := range []int{0, 1, 300, 65536 - len(objs)} {
			items, counts := indexed(len(l.Up), first, objs)
			h := checkLoad(t, l, most, nil, items, counts)
			want := loadRef(l, most, nil, items, counts)
			checkHeap(t, h, want)
			for range 2 {
				i, err := want.add(object.Obj{})
				checkAdd(t, h, object.Obj{}, i, err)
			}
			checkHeap(t, h, want)
		}
	}
}

// TestLoadMost: promise HP4, 65,536 objects.
func TestLoadMost(t *testing.T) {
	items, counts := indexed(4, 0, slices.Repeat([]object.Obj{{Level: 1}, {Level: 3, B: "b"}}, 32768))
	h := checkLoad(t, lattice.Square(), 5*32768, []int{0, 2 * 32768, 0, 3 * 32768}, items, counts)
	checkAll(t, h, items, counts)
	checkAdd(t, h, object.Obj{}, 0, api.ErrFull)
	checkCollect(t, h, 65533, refs(9, 65535, 8))
	checkAdd(t, h, object.Obj{Level: 1}, 0, 0)
	checkNoLoad(t, lattice.Square(), 5*32768-1, nil, items, counts, api.ErrFull)
	items[65535].I = 65536
	checkNoLoad(t, lattice.Square(), most, nil, items, counts, api.ErrArg)
	items = append(items, heap.Item{I: 65536, O: object.Obj{Level: 1}})
	items[65535].I = 65535
	checkNoLoad(t, lattice.Square(), most, nil, items, counts, api.ErrArg)
	items[65536].I = 65535
	checkNoLoad(t, lattice.Square(), most, nil, items, counts, api.ErrArg)
}

// TestLoadNewErrors: promise HP4, Load returns the errors of New, ahead of its own.
func TestLoadNewErrors(t *testing.T) {
	invalid := []heap.Item{{I: -1, Hash: -1, O: object.Obj{Class: 64}}}
	for _, items := range [][]heap.Item{nil, {{I: 0}}, invalid} {
		for _, l := range noLats() {
			counts := slices.Repeat([]int{1}, len(l.Up))
			checkNoLoad(t, l, most, nil, items, counts, api.ErrLattice)
			checkNoLoad(t, l, -1, []int{-1}, items, counts, api.ErrLattice)
			checkNoLoad(t, l, most, nil, items, nil, api.ErrLattice)
			checkNoLoad(t, l, 0, nil, items, counts, api.ErrLattice)
		}
		counts := []int{1, 1, 1, 1}
		for _, limit := range noLimits() {
			checkNoLoad(t, lattice.Square(), limit, nil, items, counts, api.ErrArg)
			for i := range 4 {
				quota := []int{most, most, most, most}
				quota[i] = limit
				checkNoLoad(t, lattice.Square(), most, quota, items, counts, api.ErrArg)
				checkNoLoad(t, lattice.Square(), 0, quota, items, counts, api.ErrArg)
			}
		}
		checkNoLoad(t, lattice.Square(), most, make([]int, 5), items, counts, api.ErrArg)
	}
}

// checkNoItems checks that Load returns ErrArg, also where there is no room.
func checkNoItems(t *testing.T, l lattice.Lat, items []heap.Item, counts []int) {
	t.Helper()
	for _, room := range []int{most, 5, 0} {
		checkNoLoad(t, l, room, nil, items, counts, api.ErrArg)
	}
	checkNoLoad(t, l, most, make([]int, len(l.Up)), items, counts, api.ErrArg)
}

// TestLoadErrors: promise HP4, each condition broken alone, at each item or count.
func TestLoadErrors(t *testing.T) {
	for _, l := range lats() {
		levels := len(l.Up)
		items, counts := indexed(levels, 3, objects(levels))
		for i, item := range items {
			for _, o := range noObjects(levels) {
				items[i].O = o
				checkNoItems(t, l, items, counts)
			}
			items[i] = item
			for _, n := range append(outside(65536), item.I-1, 0) {
				if items[i].I = n; i > 0 || n < 0 || n > 65535 {
					checkNoItems(t, l, items, counts)
				}
			}
			if items[i].I = item.I + 1; i+1 < len(items) {
				checkNoItems(t, l, items, counts)
			}
			items[i] = item
			for _, n := range outside(counts[item.O.Level]) {
				items[i].Hash = n
				checkNoItems(t, l, items, counts)
			}
			items[i] = item
		}
		for level, n := range counts {
			for _, other := range outside(math.MaxInt32 + 1) {
				counts[level] = other
				checkNoItems(t, l, nil, counts)
				checkNoItems(t, l, items, counts)
			}
			counts[level] = n
		}
		for _, n := range []int{0, levels - 1, levels + 1, 9, 256, 70000} {
			other := append(slices.Clone(counts), make([]int, 70000)...)[:n]
			checkNoItems(t, l, nil, other)
			checkNoItems(t, l, items, other)
		}
		checkHeap(t, checkLoad(t, l, most, nil, items, counts), loadRef(l, most, nil, items, counts))
	}
}

// TestLoadHash: promise HP4, a Hash is held against the count of the level of its object alone.
func TestLoadHash(t *testing.T) {
	for level := range 4 {
		counts := []int{50, 60, 70, 80}
		for hash := range 100 {
			items := []heap.Item{{I: 2, Hash: hash, O: object.Obj{Level: level, F: numbers(2, 3-level)}}}
			if hash < counts[level] {
				checkAll(t, checkLoad(t, lattice.Square(), most, nil, items, counts), items, counts)
			} else {
				checkNoItems(t, lattice.Square(), items, counts)
			}
		}
		counts[level] = 0
		checkNoItems(t, lattice.Square(), []heap.Item{{O: object.Obj{Level: level}}}, counts)
	}
}

// TestLoadNumbers: promise HP4, all numbers of two items, below 5 and at the end of what they may be.
func TestLoadNumbers(t *testing.T) {
	numbers := []int{-1, 0, 1, 2, 3, 4, 65534, 65535, 65536}
	for _, a := range numbers {
		for _, b := range numbers {
			items := []heap.Item{{I: a}, {I: b, Hash: 1}}
			if 0 <= a && a < b && b < 65536 {
				checkAll(t, checkLoad(t, lattice.Square(), most, nil, items, []int{2, 0, 0, 0}), items, []int{2, 0, 0, 0})
			} else {
				checkNoItems(t, lattice.Square(), items, []int{2, 0, 0, 0})
			}
		}
	}
}

// TestLoadFull: promise HP4, the objects fill the room or a quota to the last word, and may not exceed it by one;
// levels without a quota have the room alone.
func TestLoadFull(t *testing.T) {
	for _, l := range lats() {
		levels := len(l.Up)
		items, counts := indexed(levels, 0, objects(levels))
		want, room := loadRef(l, most, nil, items, counts), 0
		for level := range levels {
			room += want.used(level)
		}
		h := checkLoad(t, l, room, nil, items, counts)
		checkHeap(t, h, want)
		checkAdd(t, h, object.Obj{}, 0, api.ErrFull)
		checkNoLoad(t, l, room-1, nil, items, counts, api.ErrFull)
		checkNoLoad(t, l, 0, nil, items, counts, api.ErrFull)
		for level := range levels {
			for _, given := range []int{level + 1, levels} {
				quota := slices.Repeat([]int{most}, given)
				quota[level] = want.used(level)
				h := checkLoad(t, l, most, quota, items, counts)
				checkHeap(t, h, want)
				checkAdd(t, h, object.Obj{Level: level}, 0, api.ErrFull)
				for other := range levels {
					if other != level {
						o := object.Obj{Level: other}
						checkAdd(t, h, o, h.Len(), 0)
					}
				}
				if quota[level]--; quota[level] >= 0 {
					checkNoLoad(t, l, most, quota, items, counts, api.ErrFull)
				}
			}
		}
	}
}
