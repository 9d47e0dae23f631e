package heap_test

import (
	"math"
	"slices"
	"strings"
	"testing"

	"colloquy/api"
	"colloquy/heap"
	"colloquy/lattice"
	"colloquy/object"
)

// sized returns an object of so many words at a level. It is one of bytes if that number is odd, and otherwise one
// of fields.
func sized(words, level int) object.Obj {
	if words%2 == 1 {
		return object.Obj{Class: 5, Level: level, B: strings.Repeat("b", 8*(words-2))}
	}
	return object.Obj{Class: 6, Level: level, F: numbers((words-2)/2, 0)}
}

func checkNoNew(t *testing.T, l lattice.Lat, room int, quota []int, want api.Errno) {
	t.Helper()
	if h, err := heap.New(l, room, quota...); errno(t, err) != want || h != nil {
		t.Errorf("New of %v, %d, %v: %v, %v, want %v", l, room, quota, h, err, want)
	}
}

// TestNew: promise HP1, a new Heap is empty, with every number of quotas that is allowed, and at the ends of what
// a size limit may be.
func TestNew(t *testing.T) {
	limits := []int{0, 1, 2, most - 1, most}
	for _, l := range lats() {
		for _, room := range limits {
			checkHeap(t, checkNew(t, l, room), newRef(l, room))
			for n := range len(l.Up) + 1 {
				for _, limit := range limits {
					quota := slices.Repeat([]int{limit}, n)
					checkHeap(t, checkNew(t, l, room, quota...), newRef(l, room))
				}
			}
		}
	}
}

// TestNewErrors: promise HP1, a Lat that is not valid, whatever the limits are; a room that is not a size limit;
// too many quotas; and a quota at each place that is not a size limit.
func TestNewErrors(t *testing.T) {
	for _, l := range noLats() {
		checkNoNew(t, l, 10, nil, api.ErrLattice)
		checkNoNew(t, l, -1, nil, api.ErrLattice)
		checkNoNew(t, l, 10, []int{most + 1}, api.ErrLattice)
		checkNoNew(t, l, most+1, make([]int, 99), api.ErrLattice)
	}
	for _, l := range lats() {
		levels := len(l.Up)
		for _, n := range []int{levels + 1, levels + 2, 9, 256, 70000} {
			checkNoNew(t, l, 10, make([]int, n), api.ErrArg)
		}
		for _, limit := range noLimits() {
			checkNoNew(t, l, limit, nil, api.ErrArg)
			checkNoNew(t, l, limit, make([]int, levels), api.ErrArg)
			for n := range levels {
				quota := slices.Repeat([]int{most}, n+1)
				for i := range quota {
					quota[i] = limit
					checkNoNew(t, l, most, quota, api.ErrArg)
					checkNoNew(t, l, 0, quota, api.ErrArg)
					quota[i] = most
				}
			}
		}
	}
}

// TestExamples: the examples of the chapter, and some more sizes written out.
func TestExamples(t *testing.T) {
	for _, e := range []struct {
		fields, bytes, words int
	}{
		{3, 0, 8}, {0, 9, 4}, {0, 0, 2}, {1, 0, 4}, {0, 1, 3}, {0, 7, 3}, {0, 8, 3}, {0, 16, 4}, {0, 17, 5}, {256, 0, 514},
		{0, 1016, 129}, {0, 1017, 130}, {0, 1024, 130},
	} {
		h := checkNew(t, lattice.Square(), most)
		checkAdd(t, h, object.Obj{Class: 6, Level: 1, F: numbers(e.fields, 3), B: strings.Repeat("b", e.bytes)}, 0, 0)
		checkUsed(t, h, 1, e.words)
	}
}

// TestSizes: promise HP1 and the section Terms, each number of fields and of bytes that an object may have: it
// fits into as many words as its size, be they the room or a quota, and not into one word less.
func TestSizes(t *testing.T) {
	var objs []object.Obj
	for n := range 257 {
		objs = append(objs, object.Obj{Class: 6, Level: 2, F: numbers(n, 1)})
	}
	for n := range 1025 {
		objs = append(objs, object.Obj{Class: 5, Level: 2, B: strings.Repeat("é", n)[:n]})
	}
	for _, o := range objs {
		n := refSize(o)
		for _, fits := range []*heap.Heap{checkNew(t, lattice.Square(), n), checkNew(t, lattice.Square(), most, 0, 0, n)} {
			checkAdd(t, fits, o, 0, 0)
			checkUsed(t, fits, 2, n)
			checkAdd(t, fits, object.Obj{Level: 2}, 0, api.ErrFull)
		}
		for _, full := range []*heap.Heap{checkNew(t, lattice.Square(), n-1), checkNew(t, lattice.Square(), most, 0, 0, n-1)} {
			checkAdd(t, full, o, 0, api.ErrFull)
			checkUsed(t, full, 2, 0)
		}
	}
}

// TestRoom: promises HP1 and HP2, the objects of all levels together have at most as many words as there is room,
// whatever the quotas are.
func TestRoom(t *testing.T) {
	for _, l := range lats() {
		levels := len(l.Up)
		for _, quota := range [][]int{nil, slices.Repeat([]int{most}, levels), {100}, slices.Repeat([]int{50}, levels)} {
			for first := range levels {
				for second := range levels {
					h, want := checkNew(t, l, 40, quota...), newRef(l, 40, quota...)
					for _, e := range []struct {
						words, level int
						err          api.Errno
					}{
						{41, first, 12}, {10, first, 0}, {13, second, 0}, {18, first, 12}, {17, levels - 1, 0},
						{2, first, 12}, {2, second, 12}, {2, 0, 12},
					} {
						o := sized(e.words, e.level)
						i, err := want.add(o)
						if err != e.err {
							t.Fatalf("the test expects %v for %v", e, l)
						}
						checkAdd(t, h, o, i, err)
						checkHeap(t, h, want)
					}
				}
			}
		}
	}
}

// TestQuota: promises HP1 and HP2, the objects of a level have at most as many words as its quota, which has no
// effect on other levels; levels without a quota have the room alone.
func TestQuota(t *testing.T) {
	for _, l := range lats() {
		levels := len(l.Up)
		for limited := range levels {
			for _, given := range []int{limited + 1, levels} {
				quota := slices.Repeat([]int{most}, given)
				quota[limited] = 20
				h, want := checkNew(t, l, 300, quota...), newRef(l, 300, quota...)
				add := func(o object.Obj, wantErr api.Errno) {
					t.Helper()
					i, err := want.add(o)
					if err != wantErr {
						t.Fatalf("the test expects %v", wantErr)
					}
					checkAdd(t, h, o, i, err)
				}
				add(sized(21, limited), api.ErrFull)
				add(sized(9, limited), 0)
				for other := range levels {
					if other != limited {
						add(sized(30, other), 0)
					}
				}
				add(sized(12, limited), api.ErrFull)
				add(sized(11, limited), 0)
				add(sized(2, limited), api.ErrFull)
				for other := range levels {
					if other != limited {
						add(sized(3, other), 0)
					}
				}
				checkHeap(t, h, want)
			}
		}
	}
}

// TestQuotaZero: promise HP1, a level with a quota of 0 or 1 has no objects.
func TestQuotaZero(t *testing.T) {
	for limit := range 2 {
		h := checkNew(t, lattice.Square(), most, most, limit, most)
		checkAdd(t, h, object.Obj{Level: 1}, 0, api.ErrFull)
		checkAdd(t, h, object.Obj{Level: 0}, 0, 0)
		checkAdd(t, h, object.Obj{Level: 2}, 1, 0)
		checkAdd(t, h, object.Obj{Level: 3}, 2, 0)
		checkAdd(t, h, object.Obj{Level: 1}, 0, api.ErrFull)
	}
}

// TestLevelsOfFields: promise HP1, words count for the level of an object, not for those of its fields.
func TestLevelsOfFields(t *testing.T) {
	h := checkNew(t, lattice.Square(), most, 12, 2, 2, 2)
	checkAdd(t, h, object.Obj{Class: 6, F: []api.Val{number(1, 1), number(2, 2), number(3, 3)}}, 0, 0)
	for level, want := range []int{8, 0, 0, 0} {
		checkUsed(t, h, level, want)
	}
	checkPut(t, h, 0, 0, 0, number(1, 3), 0)
	for level, want := range []int{8, 0, 0, 0} {
		checkUsed(t, h, level, want)
	}
}

// TestGreatestRoom: promise HP1, the greatest room is filled to the last word.
func TestGreatestRoom(t *testing.T) {
	h := checkNew(t, lattice.Square(), most, most, most)
	large := object.Obj{Class: 6, Level: 1, F: numbers(256, 0)}
	for i := range 2040 {
		checkAdd(t, h, large, i, 0)
	}
	checkUsed(t, h, 1, 1048560)
	checkAdd(t, h, large, 0, api.ErrFull)
	checkAdd(t, h, sized(18, 1), 0, api.ErrFull)
	checkAdd(t, h, sized(13, 1), 2040, 0)
	checkAdd(t, h, sized(4, 2), 0, api.ErrFull)
	checkAdd(t, h, sized(3, 3), 2041, 0)
	checkAdd(t, h, object.Obj{}, 0, api.ErrFull)
	checkCollect(t, h, 2041, refs(2039))
	checkAdd(t, h, large, 0, 0)
}

// TestMost: promise HP2, a Heap has up to 65,536 objects, however much room there is, and as many again where some
// of them were removed.
func TestMost(t *testing.T) {
	h := checkNew(t, lattice.Square(), most)
	for i := range 65536 {
		checkAdd(t, h, object.Obj{Class: i % 64, Level: i % 4, F: numbers(i%3, 1)}, i, 0)
	}
	for range 3 {
		checkAdd(t, h, object.Obj{}, 0, api.ErrFull)
		checkAdd(t, h, object.Obj{Class: 6, F: numbers(256, 3)}, 0, api.ErrFull)
		checkAdd(t, h, object.Obj{Class: 64}, 0, api.ErrArg)
	}
	for i := range 65536 {
		checkObject(t, h, i, object.Obj{Class: i % 64, Level: i % 4, F: numbers(i%3, 1)}, i/4)
	}
	for _, i := range outside(65536) {
		checkNoObject(t, h, i, api.ErrRange)
	}
	var roots []api.Val
	for i := range 65536 {
		if i != 70 && i != 65535 && i != 4000 {
			roots = append(roots, ref(i))
		}
	}
	checkCollect(t, h, 3, roots)
	for n, i := range []int{70, 4000, 65535} {
		checkAdd(t, h, object.Obj{Class: 7, Level: 1}, i, 0)
		checkObject(t, h, i, object.Obj{Class: 7, Level: 1}, 16384+n)
	}
	checkAdd(t, h, object.Obj{}, 0, api.ErrFull)
	if h.Len() != 65536 {
		t.Errorf("Len is %d", h.Len())
	}
	checkCollect(t, h, 65536)
	checkHeap(t, h, &refHeap{l: lattice.Square(), counts: []int{16384, 16387, 16384, 16384}})
}

// TestAdd: promise HP2, the numbers of new objects follow each other, also behind errors, which change nothing.
func TestAdd(t *testing.T) {
	for _, l := range lats() {
		levels := len(l.Up)
		h, want := filled(t, l)
		for i, o := range objects(levels) {
			checkAdd(t, h, o, i, 0)
			want.add(o)
			for _, o := range noObjects(levels) {
				checkAdd(t, h, o, 0, api.ErrArg)
			}
			checkHeap(t, h, want)
		}
	}
}

// TestAddErrors: promise HP2, an object that is not valid gives ErrArg also where there is no room for it; neither
// error counts for Hash or takes up words.
func TestAddErrors(t *testing.T) {
	for _, quota := range [][]int{nil, {0, 0, 0, 0}} {
		h := checkNew(t, lattice.Square(), 1, quota...)
		for _, o := range noObjects(4) {
			checkAdd(t, h, o, 0, api.ErrArg)
		}
		for _, o := range objects(4) {
			checkAdd(t, h, o, 0, api.ErrFull)
		}
		checkHeap(t, h, newRef(lattice.Square(), 1))
	}
	h, want := checkNew(t, lattice.Square(), 20, 20, 10), newRef(lattice.Square(), 20, 20, 10)
	for _, o := range []object.Obj{sized(11, 1), sized(10, 1), sized(2, 1), sized(11, 2), {Level: 4}, sized(10, 0),
		sized(2, 2)} {
		i, err := want.add(o)
		checkAdd(t, h, o, i, err)
		checkHeap(t, h, want)
	}
	checkCollect(t, h, want.collect(nil))
	checkAdd(t, h, sized(10, 1), 0, 0)
	checkObject(t, h, 0, sized(10, 1), 1)
}

// TestAddNothing: promise HP2 and general rule 3, nil and an empty slice are the same.
func TestAddNothing(t *testing.T) {
	none := []api.Val{}
	h, want := filled(t, lattice.Square(), object.Obj{Class: 5, F: none, B: "a"}, object.Obj{Class: 6, F: none})
	checkUsed(t, h, 0, 5)
	checkHeap(t, h, want)
}

// TestLeastNumber: promise HP2, written out: numbers that became free are given again, the least one first, and
// those behind all others only then.
func TestLeastNumber(t *testing.T) {
	h := checkNew(t, lattice.Square(), most)
	add := func(numbers ...int) {
		t.Helper()
		for _, i := range numbers {
			checkAdd(t, h, object.Obj{Class: 7}, i, 0)
		}
	}
	add(0, 1, 2, 3, 4, 5)
	checkCollect(t, h, 3, refs(1, 3, 4))
	add(0, 2)
	checkCollect(t, h, 2, refs(0, 4, 2))
	add(1, 3, 5, 6)
	checkCollect(t, h, 1, refs(6, 4, 2, 0, 1, 3))
	add(5, 7)
	checkCollect(t, h, 7, refs(7))
	add(0, 1)
	checkCollect(t, h, 3)
	add(0, 1, 2)
}

// TestHash: promise HP2, written out: only objects of the same level count, also those that were removed.
func TestHash(t *testing.T) {
	h := checkNew(t, lattice.Square(), most)
	hashes := []int{0, 0, 1, 0, 1, 0, 2, 1, 2, 2}
	for i, level := range []int{1, 0, 1, 3, 0, 2, 1, 3, 3, 0} {
		checkAdd(t, h, object.Obj{Level: level, F: numbers(1, 3-level)}, i, 0)
		for j, want := range hashes[:i+1] {
			if got, err := h.Hash(j); got != want || err != nil {
				t.Fatalf("Hash(%d) is %d, %v, want %d", j, got, err, want)
			}
		}
	}
	checkCollect(t, h, 7, refs(9, 2, 5))
	for _, e := range []struct{ level, i, hash int }{{3, 0, 3}, {1, 1, 3}, {0, 3, 3}, {2, 4, 1}, {1, 6, 4}, {3, 7, 4}} {
		checkAdd(t, h, object.Obj{Level: e.level}, e.i, 0)
		checkObject(t, h, e.i, object.Obj{Level: e.level}, e.hash)
	}
	checkObject(t, h, 2, object.Obj{Level: 1, F: numbers(1, 2)}, 1)
	checkObject(t, h, 9, object.Obj{Level: 0, F: numbers(1, 3)}, 2)
	checkCollect(t, h, 9)
	checkAdd(t, h, object.Obj{Level: 0}, 0, 0)
	checkObject(t, h, 0, object.Obj{}, 4)
}

// TestNil: the sentence ahead of the promises, the methods of a nil Heap.
func TestNil(t *testing.T) {
	var h *heap.Heap
	if items, counts := h.All(); h.Len() != 0 || len(items) != 0 || len(counts) != 0 {
		t.Errorf("Len is %d, All is %v, %v", h.Len(), items, counts)
	}
	checkCollect(t, h, 0)
	checkCollect(t, h, 0, refs(0, 1), nil)
	for _, o := range append(objects(1), noObjects(1)...) {
		checkAdd(t, h, o, 0, api.ErrArg)
	}
	for _, i := range append(outside(0), 2, 3) {
		checkUsed(t, h, i, 0)
		checkNoObject(t, h, i, api.ErrArg)
		for _, v := range append(values(0), noValues(1)...) {
			checkPut(t, h, i, 0, 0, v, api.ErrArg)
			checkPut(t, h, i, i, i, v, api.ErrArg)
		}
	}
}

// TestTotal: promise P8 and general rule 1, arguments at the ends of what they may be cause no panic.
func TestTotal(t *testing.T) {
	ends := []int{math.MinInt, -1, 0, 1, 7, 8, math.MaxInt}
	h, _ := filled(t, lattice.Square(), objects(4)...)
	for _, h := range []*heap.Heap{nil, h, checkNew(t, lattice.Square(), 0, 0)} {
		for _, a := range ends {
			for _, b := range ends {
				v := api.Val{K: 4, N: a, L: b}
				h.Add(a, b, []api.Val{{K: 255, N: a, L: b}}, strings.Repeat("b", 2000))
				h.Put(a, b, a, api.Val{K: 4, N: b, L: a})
				h.Put(b, a, a, api.Val{K: 3, N: a})
				h.Get(a)
				h.Hash(a)
				h.Used(a)
				h.Len()
				h.All()
				h.Collect(refs(0, 1, 2, 3, 4, 5, 6, 7, 8, 9), []api.Val{v, {K: 255, N: b}}, nil)
				heap.New(lattice.Lat{Up: []uint8{uint8(a), uint8(b)}}, a, b, a)
				heap.Load(lattice.Square(), a, []int{b}, []heap.Item{{I: a, Hash: b}}, []int{a, b})
				items := []heap.Item{{I: a, Hash: b, O: object.Obj{Class: a, Level: b}}}
				heap.Load(lattice.Square(), most, nil, items, []int{a, a, b, b})
			}
		}
	}
}
