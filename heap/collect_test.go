package heap_test

import (
	"math"
	"slices"
	"testing"

	"colloquy/api"
	"colloquy/lattice"
	"colloquy/object"
)

// linked returns objects, each of which has Refs to the objects of which the numbers are given.
func linked(links ...[]int) []object.Obj {
	var objs []object.Obj
	for i, numbers := range links {
		objs = append(objs, object.Obj{Class: 6, Level: i % 4, F: refs(numbers...)})
	}
	return objs
}

// TestCollect: promises HP3 and HP5, written out: chains, trees, circles and objects without fields, and which of
// them are left.
func TestCollect(t *testing.T) {
	objs := linked([]int{1}, []int{2}, nil, []int{3}, []int{5, 5}, []int{6, 4}, []int{4}, []int{0, 4}, nil, []int{8, 99})
	objs[8] = object.Obj{Class: 5, B: "bytes"}
	for _, e := range []struct {
		roots [][]api.Val
		left  []int
	}{
		{nil, nil},
		{[][]api.Val{nil}, nil},
		{[][]api.Val{nil, {}, nil}, nil},
		{[][]api.Val{refs(0)}, []int{0, 1, 2}},
		{[][]api.Val{refs(1)}, []int{1, 2}},
		{[][]api.Val{refs(2)}, []int{2}},
		{[][]api.Val{refs(2, 1, 0, 1, 2, 2)}, []int{0, 1, 2}},
		{[][]api.Val{refs(3)}, []int{3}},
		{[][]api.Val{refs(4)}, []int{4, 5, 6}},
		{[][]api.Val{refs(6)}, []int{4, 5, 6}},
		{[][]api.Val{refs(7)}, []int{0, 1, 2, 4, 5, 6, 7}},
		{[][]api.Val{refs(8)}, []int{8}},
		{[][]api.Val{refs(9)}, []int{8, 9}},
		{[][]api.Val{refs(3), refs(8)}, []int{3, 8}},
		{[][]api.Val{nil, refs(2, 8), nil, {}, refs(3), nil}, []int{2, 3, 8}},
		{[][]api.Val{refs(10, 99, 65535)}, nil},
		{[][]api.Val{{{}, number(3, 0), ref(8), {K: 5, N: 7}}}, []int{8}},
		{[][]api.Val{refs(9, 7), refs(3)}, []int{0, 1, 2, 3, 4, 5, 6, 7, 8, 9}},
	} {
		h, want := filled(t, lattice.Square(), objs...)
		checkCollect(t, h, 10-len(e.left), e.roots...)
		for i := range 10 {
			if !slices.Contains(e.left, i) {
				delete(want.items, i)
			}
		}
		checkHeap(t, h, want)
		checkCollect(t, h, 0, e.roots...)
		checkHeap(t, h, want)
	}
}

// TestCollectKinds: promise HP3, only a Ref, of any level, keeps the object of its number, be it among the roots
// or in a field.
func TestCollectKinds(t *testing.T) {
	for k := range uint8(6) {
		for level := range 4 {
			n := 1
			if k < 3 {
				n = 0
			}
			v := api.Val{K: k, N: n, L: level}
			objs := []object.Obj{{Class: 7}, {Class: 8}, {Class: 9, F: []api.Val{v}}}
			h, want := filled(t, lattice.Square(), objs...)
			for _, root := range []api.Val{ref(2), v} {
				roots := [][]api.Val{{root}}
				checkCollect(t, h, want.collect(roots), roots...)
				checkHeap(t, h, want)
				if want.has(1) != (k == 4) || want.has(0) {
					t.Fatalf("the test expects something else of %v", v)
				}
			}
		}
	}
}

// TestCollectLevels: promise HP3, an object is kept whatever its level and that of the Ref are.
func TestCollectLevels(t *testing.T) {
	for _, l := range lats() {
		levels := len(l.Up)
		for i := range levels * levels * levels {
			holder, level, own := i%levels, i/levels%levels, i/levels/levels
			f := []api.Val{{K: 4, N: 0, L: level}}
			h, want := filled(t, l, object.Obj{Level: own}, object.Obj{Level: holder, F: f}, object.Obj{Level: own})
			roots := [][]api.Val{{{K: 4, N: 1, L: levels - 1 - level}}}
			want.collect(roots)
			checkCollect(t, h, 1, roots...)
			checkHeap(t, h, want)
		}
	}
}

// TestCollectPlaces: promise HP3, a Ref at each of 256 fields, and at each place among 256 roots in three lists.
func TestCollectPlaces(t *testing.T) {
	for place := range 256 {
		f := numbers(256, 0)
		f[place] = ref(0)
		h, want := filled(t, lattice.Square(), object.Obj{Class: 7}, object.Obj{Class: 6, F: f}, object.Obj{})
		want.collect([][]api.Val{refs(1)})
		checkCollect(t, h, 1, refs(1))
		checkHeap(t, h, want)

		h, want = filled(t, lattice.Square(), object.Obj{Class: 7}, object.Obj{Class: 6})
		want.collect([][]api.Val{refs(0)})
		checkCollect(t, h, 1, f[:100], f[100:180], f[180:])
		checkHeap(t, h, want)
	}
}

// TestCollectNumbers: promise HP3 and P8, Refs whose number is not that of an object have no effect, neither among
// the roots nor in fields.
func TestCollectNumbers(t *testing.T) {
	roots := append(refs(outside(3)...), refs(outside(65536)...)...)
	h, want := filled(t, lattice.Square(), linked([]int{3, 4, 65535}, []int{1, 65535}, []int{1000, 3})...)
	checkCollect(t, h, 2, roots, refs(1), roots)
	want.collect([][]api.Val{refs(1)})
	checkHeap(t, h, want)
	checkCollect(t, h, 0, append(refs(0, 2, math.MaxInt), ref(1)))
	checkCollect(t, h, 1, refs(0, 2), roots)
	checkCollect(t, h, 0, refs(0, 1, 2), roots)
}

// TestCollectAgain: promises HP2 and HP3, what is reachable depends on what Put stored, and a Ref that was left
// without an object is one to the new object that has its number.
func TestCollectAgain(t *testing.T) {
	objs := linked([]int{1, 2}, nil, nil, []int{0})
	h, want := filled(t, lattice.Square(), objs...)
	checkPut(t, h, 0, 0, 0, ref(3), want.put(t, 0, 0, 0, ref(3)))
	checkCollect(t, h, want.collect([][]api.Val{refs(0)}), refs(0))
	checkHeap(t, h, want)
	checkPut(t, h, 0, 1, 0, ref(1), want.put(t, 0, 1, 0, ref(1)))
	checkCollect(t, h, 1, refs(0))
	want.collect([][]api.Val{refs(0)})
	checkHeap(t, h, want)
	objs = linked([]int{2}, nil, nil)
	for i, free := range []int{1, 2, 4} {
		want.add(objs[i])
		checkAdd(t, h, objs[i], free, 0)
	}
	checkCollect(t, h, 1, refs(3))
	want.collect([][]api.Val{refs(3)})
	checkHeap(t, h, want)
}

// TestCollectMakesRoom: promises HP1 and HP3, the words of removed objects, and only these, can be used again, at
// their level and by all.
func TestCollectMakesRoom(t *testing.T) {
	h, want := checkNew(t, lattice.Square(), 40, 40, 20), newRef(lattice.Square(), 40, 40, 20)
	add := func(words, level, i int, err api.Errno) {
		t.Helper()
		want.add(sized(words, level))
		checkAdd(t, h, sized(words, level), i, err)
		checkHeap(t, h, want)
	}
	collect := func(removed int, roots ...[]api.Val) {
		t.Helper()
		want.collect(roots)
		checkCollect(t, h, removed, roots...)
		checkHeap(t, h, want)
	}
	add(9, 1, 0, 0)
	add(11, 1, 1, 0)
	add(15, 0, 2, 0)
	add(5, 3, 3, 0)
	add(2, 3, 0, api.ErrFull)
	collect(1, refs(0, 1, 2))
	add(2, 1, 0, api.ErrFull)
	add(6, 0, 0, api.ErrFull)
	add(3, 2, 3, 0)
	add(2, 3, 4, 0)
	collect(1, refs(2, 1, 4), refs(3))
	add(10, 1, 0, api.ErrFull)
	add(9, 1, 0, 0)
	add(2, 0, 0, api.ErrFull)
	collect(5)
	add(21, 1, 0, api.ErrFull)
	add(40, 3, 0, 0)
}

// TestEveryGraph: promises HP3 and HP5, three objects with every set of Refs among them, and every set of roots.
func TestEveryGraph(t *testing.T) {
	chosen := func(set int) []int {
		var l []int
		for i := range 3 {
			if set>>i&1 == 1 {
				l = append(l, i)
			}
		}
		return l
	}
	for links := range 512 {
		for set := range 8 {
			h, want := filled(t, lattice.Square(), linked(chosen(links&7), chosen(links>>3&7), chosen(links>>6))...)
			roots := [][]api.Val{refs(chosen(set)...)}
			checkCollect(t, h, want.collect(roots), roots...)
			checkAll(t, h, want.all(), want.counts)
		}
	}
}

// TestLongChains: promise HP3, all objects that there may be in one chain, in the order of their numbers and
// against it, entered at one of them.
func TestLongChains(t *testing.T) {
	for _, step := range []int{1, -1} {
		h := checkNew(t, lattice.Square(), most)
		for i := range 65536 {
			next := i + step
			checkAdd(t, h, object.Obj{Class: 6, F: refs((next + 65536) % 65536)}, i, 0)
		}
		checkCollect(t, h, 0, refs(30000))
		for _, end := range []int{40000, 50000, 0, 65535} {
			checkPut(t, h, end, 0, 0, api.Val{}, 0)
		}
		left := 10001
		if step < 0 {
			left = 30001
		}
		checkCollect(t, h, 65536-left, refs(30000))
		checkUsed(t, h, 0, 4*left)
		checkObject(t, h, 30000, object.Obj{Class: 6, F: refs(30000 + step)}, 30000)
		checkNoObject(t, h, 30000-step, api.ErrRange)
		checkCollect(t, h, left)
	}
}
