package heap_test

import (
	"math/rand/v2"
	"testing"

	"colloquy/api"
	"colloquy/heap"
	"colloquy/lattice"
	"colloquy/object"
)

// pair is a Heap and what it should be.
type pair struct {
	h    *heap.Heap
	want *refHeap
}

// tally counts what operations did.
type tally struct {
	added, put    [14]int
	removed, kept int
}

func newPair(t *testing.T, source *rand.Rand, l lattice.Lat) pair {
	t.Helper()
	room, quota := 20+source.IntN(200), randomQuota(source, len(l.Up))
	return pair{checkNew(t, l, room, quota...), newRef(l, room, quota...)}
}

func (p pair) add(t *testing.T, o object.Obj, n *tally) {
	t.Helper()
	i, err := p.want.add(o)
	checkAdd(t, p.h, o, i, err)
	n.added[err]++
}

func (p pair) put(t *testing.T, i, k, under int, v api.Val, n *tally) {
	t.Helper()
	err := p.want.put(t, i, k, under, v)
	checkPut(t, p.h, i, k, under, v, err)
	n.put[err]++
}

func (p pair) collect(t *testing.T, roots [][]api.Val, n *tally) {
	t.Helper()
	removed := p.want.collect(roots)
	checkCollect(t, p.h, removed, roots...)
	n.removed, n.kept = n.removed+removed, n.kept+len(p.want.items)
}

// loaded returns a pair whose Heap Load made of what All returns.
func (p pair) loaded(t *testing.T) pair {
	t.Helper()
	items, counts := p.h.All()
	h := checkLoad(t, p.want.l, p.want.room, p.want.quota, items, counts)
	return pair{h, loadRef(p.want.l, p.want.room, p.want.quota, p.want.all(), p.want.counts)}
}

// operate performs a random operation.
func (p pair) operate(t *testing.T, source *rand.Rand, noVals []api.Val, others []object.Obj, n *tally) {
	t.Helper()
	levels := p.want.levels()
	switch source.IntN(11) {
	case 0:
		p.collect(t, randomRoots(source, levels), n)
	case 1, 2, 3, 4:
		o := random(source, levels)
		if source.IntN(10) == 0 {
			o = pick(source, others)
		}
		p.add(t, o, n)
	default:
		v := randomVal(source, levels)
		if source.IntN(10) == 0 {
			v = pick(source, noVals)
		}
		p.put(t, source.IntN(p.h.Len()+2)-1, source.IntN(4)-1, source.IntN(levels), v, n)
	}
}

// TestRandom: promises HP1 to HP5, fixed random operations, valid ones and others, against the definitions; now
// and then the Heap is replaced by one that Load makes of what All returns.
func TestRandom(t *testing.T) {
	source := rand.New(rand.NewPCG(12, 1))
	var n tally
	for _, l := range lats() {
		noVals, others := noValues(len(l.Up)), append(noObjects(len(l.Up)), objects(len(l.Up))...)
		for range 50 {
			p := newPair(t, source, l)
			for range 100 {
				if source.IntN(12) == 0 {
					p = p.loaded(t)
				}
				p.operate(t, source, noVals, others, &n)
				checkHeap(t, p.h, p.want)
			}
		}
	}
	added := min(n.added[0], n.added[api.ErrArg], n.added[api.ErrFull])
	put := min(n.put[0], n.put[api.ErrArg], n.put[api.ErrRange], n.put[api.ErrStop])
	if min(added, put, n.removed, n.kept) < 500 {
		t.Errorf("the operations did %v", n)
	}
}

// TestLoadContinues: promise HP4, a Heap that was loaded from what All returns continues as the other one does.
func TestLoadContinues(t *testing.T) {
	var n tally
	for _, l := range lats() {
		noVals, others := noValues(len(l.Up)), noObjects(len(l.Up))
		for seed := range uint64(60) {
			source := rand.New(rand.NewPCG(12, 3+seed))
			p := newPair(t, source, l)
			for range 40 {
				p.operate(t, source, noVals, others, &n)
			}
			for _, p := range []pair{p.loaded(t), p} {
				same := rand.New(rand.NewPCG(13, seed))
				for range 30 {
					p.operate(t, same, noVals, others, &n)
				}
				checkHeap(t, p.h, p.want)
			}
		}
	}
}

// TestRandomGraphs: promises HP3 and HP5, fixed random objects, up to 600, with few Refs each, so that some of them
// are reachable.
func TestRandomGraphs(t *testing.T) {
	source := rand.New(rand.NewPCG(12, 2))
	var n tally
	for range 60 {
		links := make([][]int, 1+source.IntN(600))
		for i := range links {
			for range source.IntN(4) {
				links[i] = append(links[i], source.IntN(len(links)+1))
			}
		}
		h, want := filled(t, lattice.Square(), linked(links...)...)
		roots := [][]api.Val{refs(source.IntN(len(links))), refs(source.IntN(len(links)))}
		pair{h, want}.collect(t, roots, &n)
		checkHeap(t, h, want)
	}
	if min(n.removed, n.kept) < 2000 {
		t.Errorf("%d objects were removed and %d kept", n.removed, n.kept)
	}
}
