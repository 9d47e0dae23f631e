package heap_test

import (
	"errors"
	"maps"
	"slices"
	"testing"

	"colloquy/api"
	"colloquy/heap"
	"colloquy/lattice"
	"colloquy/object"
)

// The functions of this file follow the definitions of chapter 12 word by word. What a valid object is and what
// Put does they take from object, where chapter 11 defines it.

// errno returns the number of an error, or 0 if there is none.
func errno(t *testing.T, err error) api.Errno {
	t.Helper()
	var n api.Errno
	if err != nil && !errors.As(err, &n) {
		t.Fatalf("error %v has no number", err)
	}
	return n
}

// refSize returns the size of an object.
func refSize(o object.Obj) int {
	n := 2
	for range o.F {
		n += 2
	}
	for i := 0; i < len(o.B); i += 8 {
		n++
	}
	return n
}

// refHeap is a Heap that counts words anew on each call.
type refHeap struct {
	l      lattice.Lat
	room   int
	quota  []int
	items  map[int]heap.Item
	counts []int
}

func newRef(l lattice.Lat, room int, quota ...int) *refHeap {
	return &refHeap{l, room, quota, map[int]heap.Item{}, make([]int, len(l.Up))}
}

// loadRef returns what Load should return.
func loadRef(l lattice.Lat, room int, quota []int, items []heap.Item, counts []int) *refHeap {
	r := newRef(l, room, quota...)
	r.counts = slices.Clone(counts)
	for _, item := range cloneItems(items) {
		r.items[item.I] = item
	}
	return r
}

func (r *refHeap) levels() int {
	return len(r.l.Up)
}

func (r *refHeap) used(level int) int {
	n := 0
	for _, item := range r.items {
		if item.O.Level == level {
			n += refSize(item.O)
		}
	}
	return n
}

// isWithin reports whether no limit is exceeded.
func (r *refHeap) isWithin() bool {
	all := 0
	for level := range r.levels() {
		n := r.used(level)
		if level < len(r.quota) && n > r.quota[level] {
			return false
		}
		all += n
	}
	return all <= r.room && len(r.items) <= 65536
}

func (r *refHeap) add(o object.Obj) (int, api.Errno) {
	if !object.May(r.levels(), o) {
		return 0, 1
	}
	i := 0
	for r.has(i) {
		i++
	}
	r.items[i] = heap.Item{I: i, Hash: r.counts[o.Level], O: cloneObj(o)}
	if !r.isWithin() {
		delete(r.items, i)
		return 0, 12
	}
	r.counts[o.Level]++
	return i, 0
}

func (r *refHeap) has(i int) bool {
	_, ok := r.items[i]
	return ok
}

// put has a Store with object i alone put the value, or an empty Store if there is no object i.
func (r *refHeap) put(t *testing.T, i, k, under int, v api.Val) api.Errno {
	t.Helper()
	item, ok := r.items[i]
	if !ok {
		s, _ := object.New(r.l, nil)
		return errno(t, s.Put(0, k, under, v))
	}
	s, _ := object.New(r.l, []object.Obj{item.O})
	err := s.Put(0, k, under, v)
	item.O, _ = s.Get(0)
	r.items[i] = item
	return errno(t, err)
}

// reachable returns the numbers of the objects that are reachable from the roots.
func (r *refHeap) reachable(roots [][]api.Val) map[int]bool {
	reached := map[int]bool{}
	var follow func(l []api.Val)
	follow = func(l []api.Val) {
		for _, v := range l {
			if v.K == 4 && r.has(v.N) && !reached[v.N] {
				reached[v.N] = true
				follow(r.items[v.N].O.F)
			}
		}
	}
	for _, l := range roots {
		follow(l)
	}
	return reached
}

func (r *refHeap) collect(roots [][]api.Val) int {
	reached, before := r.reachable(roots), len(r.items)
	maps.DeleteFunc(r.items, func(i int, _ heap.Item) bool { return !reached[i] })
	return before - len(r.items)
}

func (r *refHeap) all() []heap.Item {
	var l []heap.Item
	for _, i := range slices.Sorted(maps.Keys(r.items)) {
		l = append(l, r.items[i])
	}
	return l
}

// same reports whether two objects are equal in all fields.
func same(a, b object.Obj) bool {
	return a.Class == b.Class && a.Level == b.Level && a.B == b.B && slices.Equal(a.F, b.F)
}

func sameItems(a, b []heap.Item) bool {
	return slices.EqualFunc(a, b, func(a, b heap.Item) bool { return a.I == b.I && a.Hash == b.Hash && same(a.O, b.O) })
}

// checkHeap checks all that the methods tell about h, and that there is nothing beside its objects.
func checkHeap(t *testing.T, h *heap.Heap, want *refHeap) {
	t.Helper()
	if h.Len() != len(want.items) {
		t.Fatalf("Len is %d, want %d", h.Len(), len(want.items))
	}
	for level := range want.levels() {
		checkUsed(t, h, level, want.used(level))
	}
	for _, level := range noLevels(want.levels()) {
		checkUsed(t, h, level, 0)
	}
	last := 0
	for i, item := range want.items {
		checkObject(t, h, i, item.O, item.Hash)
		last = max(last, i)
	}
	for i := range min(last+4, 400) {
		if !want.has(i) {
			checkNoObject(t, h, i, api.ErrRange)
		}
	}
	for _, i := range outside(last + 1) {
		checkNoObject(t, h, i, api.ErrRange)
	}
	checkAll(t, h, want.all(), want.counts)
}

func checkUsed(t *testing.T, h *heap.Heap, level, want int) {
	t.Helper()
	if got := h.Used(level); got != want {
		t.Fatalf("Used(%d) is %d, want %d", level, got, want)
	}
}

func checkAll(t *testing.T, h *heap.Heap, want []heap.Item, wantCounts []int) {
	t.Helper()
	if got, counts := h.All(); !sameItems(got, want) || !slices.Equal(counts, wantCounts) {
		t.Fatalf("All is %v, %v, want %v, %v", got, counts, want, wantCounts)
	}
}

func checkObject(t *testing.T, h *heap.Heap, i int, want object.Obj, hash int) {
	t.Helper()
	if got, err := h.Get(i); errno(t, err) != 0 || !same(got, want) {
		t.Fatalf("Get(%d) is %v, %v, want %v", i, got, err, want)
	}
	if got, err := h.Hash(i); errno(t, err) != 0 || got != hash {
		t.Fatalf("Hash(%d) is %d, %v, want %d", i, got, err, hash)
	}
}

// checkNoObject checks that Get and Hash return an error, and nothing else.
func checkNoObject(t *testing.T, h *heap.Heap, i int, want api.Errno) {
	t.Helper()
	if got, err := h.Get(i); errno(t, err) != want || !same(got, object.Obj{}) {
		t.Fatalf("Get(%d) is %v, %v, want %v", i, got, err, want)
	}
	if got, err := h.Hash(i); errno(t, err) != want || got != 0 {
		t.Fatalf("Hash(%d) is %d, %v, want %v", i, got, err, want)
	}
}

func checkPut(t *testing.T, h *heap.Heap, i, k, under int, v api.Val, want api.Errno) {
	t.Helper()
	if err := h.Put(i, k, under, v); errno(t, err) != want {
		t.Fatalf("Put(%d, %d, %d, %v): %v, want %v", i, k, under, v, err, want)
	}
}

func checkAdd(t *testing.T, h *heap.Heap, o object.Obj, want int, wantErr api.Errno) {
	t.Helper()
	if got, err := h.Add(o.Class, o.Level, o.F, o.B); errno(t, err) != wantErr || got != want {
		t.Fatalf("Add of an object of class %d at level %d with %d fields and %d bytes: %d, %v, want %d, %v",
			o.Class, o.Level, len(o.F), len(o.B), got, err, want, wantErr)
	}
}

func checkCollect(t *testing.T, h *heap.Heap, want int, roots ...[]api.Val) {
	t.Helper()
	if got := h.Collect(roots...); got != want {
		t.Fatalf("Collect with %v removed %d objects, want %d", roots, got, want)
	}
}

func checkNew(t *testing.T, l lattice.Lat, room int, quota ...int) *heap.Heap {
	t.Helper()
	h, err := heap.New(l, room, quota...)
	if errno(t, err) != 0 || h == nil {
		t.Fatalf("New of %v, %d, %v: %v, %v", l, room, quota, h, err)
	}
	return h
}

func checkLoad(t *testing.T, l lattice.Lat, room int, quota []int, items []heap.Item, counts []int) *heap.Heap {
	t.Helper()
	h, err := heap.Load(l, room, quota, items, counts)
	if errno(t, err) != 0 || h == nil {
		t.Fatalf("Load of %v, %d, %v with %d objects and %v: %v", l, room, quota, len(items), counts, err)
	}
	return h
}

// filled returns a Heap without limits to which objects were added, and what it should be.
func filled(t *testing.T, l lattice.Lat, objs ...object.Obj) (*heap.Heap, *refHeap) {
	t.Helper()
	h, want := checkNew(t, l, most), newRef(l, most)
	for _, o := range objs {
		i, err := want.add(o)
		checkAdd(t, h, o, i, err)
	}
	return h, want
}
