package heap_test

import (
	"math/rand/v2"
	"reflect"
	"slices"
	"testing"

	"colloquy/api"
	"colloquy/heap"
	"colloquy/lattice"
	"colloquy/object"
)

var spoilt = api.Val{K: 77, N: 77, L: 77}

// roomyItems returns a copy of l each of whose slices has so much spare capacity, which is not zero.
func roomyItems(l []heap.Item, spare int) []heap.Item {
	l = cloneItems(l)
	for i, item := range l {
		l[i].O.F = roomy(item.O.F, spare, number(88, 1))
	}
	return roomy(l, spare, heap.Item{I: 88, Hash: 88, O: object.Obj{Class: 88, F: numbers(2, 88), B: "spare"}})
}

// wholeItems returns a copy of l with all that stands behind its slices.
func wholeItems(l []heap.Item) []heap.Item {
	l = slices.Clone(whole(l))
	for i, item := range l {
		l[i].O.F = whole(item.O.F)
	}
	return cloneItems(l)
}

func spoil[E any](l []E, filler E) {
	for i := range whole(l) {
		whole(l)[i] = filler
	}
}

func spoilItems(l []heap.Item) {
	for _, item := range whole(l) {
		spoil(item.O.F, spoilt)
	}
	spoil(l, heap.Item{I: 77, Hash: 77, O: object.Obj{Class: 77, Level: 77, F: []api.Val{spoilt}, B: "spoilt"}})
}

// checkGoesOn checks that h still has the lattice and the limits of want, by adding objects of each level until
// there is no more room, with a Put into each.
func checkGoesOn(t *testing.T, h *heap.Heap, want *refHeap) {
	t.Helper()
	levels, full := want.levels(), 0
	for i := range 8 * levels * levels {
		under, level, own := i%levels, i/levels%levels, i/levels/levels%levels
		o := object.Obj{Class: 6, Level: own, F: numbers(1+i%5, level)}
		n, err := want.add(o)
		checkAdd(t, h, o, n, err)
		if err != 0 {
			full++
			continue
		}
		checkPut(t, h, n, 0, under, number(3, own), want.put(t, n, 0, under, number(3, own)))
	}
	if full == 0 {
		t.Fatal("there is more room")
	}
	checkAdd(t, h, object.Obj{Level: levels}, 0, api.ErrArg)
	checkHeap(t, h, want)
}

// TestKeepsNothingOfNew: promise P8 and general rule 3, New does not change what it is given nor what stands behind
// it, and what becomes of that later has no effect on the Heap.
func TestKeepsNothingOfNew(t *testing.T) {
	for _, l := range lats() {
		for given := range len(l.Up) + 1 {
			for _, spare := range []int{0, 1, 9} {
				want := newRef(l, 35*len(l.Up), slices.Repeat([]int{40}, given)...)
				up, quota := roomy(l.Up, spare, 0xa5), roomy(want.quota, spare, 3)
				wantUp, wantQuota := slices.Clone(whole(up)), slices.Clone(whole(quota))
				h := checkNew(t, lattice.Lat{Up: up}, want.room, quota...)
				if !slices.Equal(whole(up), wantUp) || !slices.Equal(whole(quota), wantQuota) {
					t.Fatalf("New changed %v and %v to %v and %v", wantUp, wantQuota, whole(up), whole(quota))
				}
				spoil(up, 0)
				spoil(quota, 0)
				checkGoesOn(t, h, want)
			}
		}
	}
}

// TestKeepsNothingOfLoad: promise P8 and general rule 3, the same for Load.
func TestKeepsNothingOfLoad(t *testing.T) {
	for _, l := range lats() {
		levels := len(l.Up)
		items, counts := indexed(levels, 5, objects(levels))
		for given := range levels + 1 {
			for _, spare := range []int{0, 1, 9} {
				want := loadRef(l, 30*levels, nil, items, counts)
				for level := range levels {
					want.room += want.used(level)
					if level < given {
						want.quota = append(want.quota, want.used(level)+35)
					}
				}
				up, quota := roomy(l.Up, spare, 0xa5), roomy(want.quota, spare, 3)
				items, counts := roomyItems(items, spare), roomy(counts, spare, 4)
				wantUp, wantQuota := slices.Clone(whole(up)), slices.Clone(whole(quota))
				wantItems, wantCounts := wholeItems(items), slices.Clone(whole(counts))
				h := checkLoad(t, lattice.Lat{Up: up}, want.room, quota, items, counts)
				if !slices.Equal(whole(up), wantUp) || !slices.Equal(whole(quota), wantQuota) {
					t.Fatalf("Load changed %v and %v to %v and %v", wantUp, wantQuota, whole(up), whole(quota))
				}
				if !reflect.DeepEqual(wholeItems(items), wantItems) || !slices.Equal(whole(counts), wantCounts) {
					t.Fatalf("Load changed %v and %v to %v and %v", wantItems, wantCounts, wholeItems(items), whole(counts))
				}
				spoil(up, 0)
				spoil(quota, 0)
				spoil(counts, 0)
				spoilItems(items)
				checkHeap(t, h, want)
				checkGoesOn(t, h, want)
			}
		}
	}
}

// TestKeepsNothingOfAdd: promise P8 and general rule 3, the same for the fields that Add is given.
func TestKeepsNothingOfAdd(t *testing.T) {
	h, want := filled(t, lattice.Square())
	for _, o := range append(objects(4), noObjects(4)...) {
		for _, spare := range []int{0, 1, 9} {
			f := roomy(o.F, spare, number(88, 1))
			before := slices.Clone(whole(f))
			i, err := want.add(o)
			checkAdd(t, h, object.Obj{Class: o.Class, Level: o.Level, F: f, B: o.B}, i, err)
			if !slices.Equal(whole(f), before) {
				t.Fatalf("Add changed %v to %v", before, whole(f))
			}
			spoil(f, spoilt)
		}
	}
	checkHeap(t, h, want)
}

// TestKeepsRoots: promise P8 and general rule 3, Collect does not change its roots nor what stands behind them, and
// what becomes of them later has no effect.
func TestKeepsRoots(t *testing.T) {
	for _, spare := range []int{0, 1, 9} {
		h, want := filled(t, lattice.Square(), linked([]int{1, 3}, []int{0}, nil, nil, []int{2})...)
		roots := [][]api.Val{roomy(refs(1, 77, 0), spare, ref(4)), roomy(refs(), spare, ref(2)), roomy(refs(3), spare, ref(2))}
		roots = roomy(roots, spare, refs(2))
		var before [][]api.Val
		for _, l := range whole(roots) {
			before = append(before, slices.Clone(whole(l)))
		}
		want.collect(roots)
		checkCollect(t, h, 2, roots...)
		for i, l := range whole(roots) {
			if !slices.Equal(whole(l), before[i]) {
				t.Fatalf("Collect changed %v to %v", before[i], whole(l))
			}
		}
		for _, l := range whole(roots) {
			spoil(l, spoilt)
		}
		spoil(roots, nil)
		checkHeap(t, h, want)
		checkCollect(t, h, 0, refs(0))
		checkHeap(t, h, want)
	}
}

// TestPutKeepsArguments: promise P8, Put does not change slices that Add and Load were given, nor what Get and All
// returned before.
func TestPutKeepsArguments(t *testing.T) {
	f := roomy(numbers(3, 0), 4, number(88, 0))
	items := []heap.Item{{I: 0, O: object.Obj{Class: 6, F: f}}}
	h := checkLoad(t, lattice.Square(), most, nil, items, []int{1, 0, 0, 0})
	checkAdd(t, h, items[0].O, 1, 0)
	want := slices.Clone(whole(f))
	for i := range 2 {
		before, err := h.Get(i)
		if err != nil {
			t.Fatal(err)
		}
		all, _ := h.All()
		checkPut(t, h, i, 2, 0, number(50, 3), 0)
		if !slices.Equal(before.F, numbers(3, 0)) || !slices.Equal(all[i].O.F, numbers(3, 0)) {
			t.Errorf("Put changed what was returned to %v and %v", before.F, all[i].O.F)
		}
	}
	if !slices.Equal(whole(f), want) {
		t.Errorf("Put changed %v to %v", want, whole(f))
	}
}

// TestGetNewResult: promise P8 and general rules 3 and 4, no two results of Get and All share memory, nor do a
// result and the Heap, spare capacity included.
func TestGetNewResult(t *testing.T) {
	source := rand.New(rand.NewPCG(12, 4))
	for _, l := range lats() {
		levels := len(l.Up)
		for range 20 {
			h, want := filled(t, l, random(source, levels), random(source, levels), random(source, levels),
				object.Obj{Class: 6, F: numbers(2, 0)})
			want.collect([][]api.Val{refs(0, 2, 3)})
			checkCollect(t, h, 4-len(want.items), refs(0, 2, 3))
			for i, item := range want.items {
				first, _ := h.Get(i)
				second, _ := h.Get(i)
				spoil(first.F, spoilt)
				if !same(second, item.O) {
					t.Fatalf("two results share memory: %v, want %v", second, item.O)
				}
				first.F = append(second.F[:0], spoilt)
				checkHeap(t, h, want)
			}
			firstItems, firstCounts := h.All()
			items, counts := h.All()
			spoilItems(firstItems)
			spoil(firstCounts, 77)
			if !sameItems(items, want.all()) || !slices.Equal(counts, want.counts) {
				t.Fatalf("two results share memory: %v, %v", items, counts)
			}
			checkHeap(t, h, want)
		}
	}
}

// TestAllApart: promise P8 and general rule 3, no two slices in one result of All share memory, spare capacity
// included.
func TestAllApart(t *testing.T) {
	f := numbers(3, 0)
	objs := []object.Obj{{Class: 6, F: f}, {Class: 6, F: f[:1]}, {Class: 7}}
	h, want := filled(t, lattice.Square(), slices.Repeat(objs, 5)...)
	items, _ := h.All()
	for i, item := range items {
		spoil(item.O.F, spoilt)
		for j, other := range items[i+1:] {
			if !same(other.O, want.items[i+1+j].O) {
				t.Fatalf("objects %d and %d share memory", i, i+1+j)
			}
		}
	}
}

// TestHeapsApart: promise P8 and general rule 4, objects of the same fields are changed one by one, and two Heaps
// have no effect on each other.
func TestHeapsApart(t *testing.T) {
	f := numbers(2, 0)
	objs := []object.Obj{{Class: 6, F: f}, {Class: 6, F: f}, {Class: 7, F: f[:1]}}
	a, wantA := filled(t, lattice.Square(), objs...)
	items, counts := a.All()
	b := checkLoad(t, lattice.Square(), 30, []int{30}, items, counts)
	wantB := loadRef(lattice.Square(), 30, []int{30}, items, counts)
	check := func() {
		t.Helper()
		checkHeap(t, a, wantA)
		checkHeap(t, b, wantB)
	}
	for i := range 3 {
		checkPut(t, a, i, 0, 0, number(10+i, 0), wantA.put(t, i, 0, 0, number(10+i, 0)))
		check()
		checkPut(t, b, 2-i, 0, 0, number(20+i, 1), wantB.put(t, 2-i, 0, 0, number(20+i, 1)))
		check()
	}
	got, _ := b.Get(1)
	checkAdd(t, a, got, 3, 0)
	wantA.add(got)
	check()
	checkCollect(t, b, 2, refs(1))
	wantB.collect([][]api.Val{refs(1)})
	check()
	checkPut(t, a, 3, 1, 0, number(30, 0), wantA.put(t, 3, 1, 0, number(30, 0)))
	check()
	checkCollect(t, a, 4)
	wantA.collect(nil)
	check()
	checkAdd(t, b, got, 0, 0)
	wantB.add(got)
	check()
}
