package object_test

import (
	"math"
	"math/rand/v2"
	"strings"
	"testing"

	"colloquy/api"
	"colloquy/lattice"
	"colloquy/object"
)

func checkNew(t *testing.T, l lattice.Lat, first []object.Obj) *object.Store {
	t.Helper()
	s, err := object.New(l, first)
	if errno(t, err) != 0 {
		t.Fatalf("New of %v with %d objects: %v", l, len(first), err)
	}
	return s
}

func checkNoNew(t *testing.T, l lattice.Lat, first []object.Obj, want api.Errno) {
	t.Helper()
	if s, err := object.New(l, first); errno(t, err) != want || s != nil {
		t.Errorf("New of %v with %d objects: %v, %v, want %v", l, len(first), s, err, want)
	}
}

// TestNew: promise OB1, a Store has the first objects, in their order.
func TestNew(t *testing.T) {
	for _, l := range lats() {
		checkStore(t, checkNew(t, l, nil), &refStore{l: l})
		checkStore(t, checkNew(t, l, []object.Obj{}), &refStore{l: l})
		first := objects(len(l.Up))
		for n := range len(first) + 1 {
			checkStore(t, checkNew(t, l, first[:n]), &refStore{l, first[:n]})
			checkStore(t, checkNew(t, l, first[n:]), &refStore{l, first[n:]})
		}
	}
}

// TestNewErrors: promise OB1, a Lat that is not valid, whatever the objects are, and an object that is not valid,
// at each place.
func TestNewErrors(t *testing.T) {
	for _, l := range noLats() {
		checkNoNew(t, l, nil, api.ErrLattice)
		checkNoNew(t, l, []object.Obj{{}}, api.ErrLattice)
		checkNoNew(t, l, []object.Obj{{Class: 64}}, api.ErrLattice)
		checkNoNew(t, l, make([]object.Obj, 65537), api.ErrLattice)
	}
	for _, l := range lats() {
		for i, o := range noObjects(len(l.Up)) {
			checkNoNew(t, l, []object.Obj{o}, api.ErrArg)
			first := objects(len(l.Up))
			first[i%len(first)] = o
			checkNoNew(t, l, first, api.ErrArg)
		}
	}
	first := make([]object.Obj, 20)
	for i := range first {
		first[i].Level = 4
		checkNoNew(t, lattice.Square(), first, api.ErrArg)
		first[i].Level = 3
		checkNew(t, lattice.Square(), first)
	}
}

// TestMost: promises OB1 and OB2, a Store has up to 65,536 objects, which New or Add gave it, and no more; the
// objects at all numbers, and their Hash.
func TestMost(t *testing.T) {
	first := make([]object.Obj, 65536)
	for i := range first {
		first[i] = object.Obj{Class: i % 64, Level: i * i % 4, F: numbers(i%3, i%4)}
	}
	first[65535].Level = 3
	for _, n := range []int{0, 1, 65534, 65535, 65536} {
		s := checkNew(t, lattice.Square(), first[:n])
		for i, o := range first[n:] {
			checkAdd(t, s, o, n+i, 0)
		}
		for range 3 {
			checkAdd(t, s, object.Obj{}, 0, api.ErrFull)
			checkAdd(t, s, object.Obj{Class: 6, F: numbers(256, 3)}, 0, api.ErrFull)
			checkAdd(t, s, object.Obj{Class: 64}, 0, api.ErrArg)
			checkAdd(t, s, object.Obj{Level: 4}, 0, api.ErrArg)
		}
		if s.Len() != 65536 {
			t.Fatalf("Len is %d", s.Len())
		}
		var counts [4]int
		for i, o := range first {
			checkObject(t, s, i, o, counts[o.Level])
			counts[o.Level]++
		}
		for _, i := range outside(65536) {
			checkNoObject(t, s, i, api.ErrRange)
		}
		checkPut(t, s, 65535, 0, 0, number(5, 1), api.ErrRange)
		checkPut(t, s, 65534, 1, 0, number(5, 1), 0)
		checkPut(t, s, 65536, 0, 0, number(5, 1), api.ErrRange)
	}
	checkNoNew(t, lattice.Square(), append(first, object.Obj{}), api.ErrArg)
	checkNoNew(t, lattice.Square(), make([]object.Obj, 200000), api.ErrArg)
}

// TestAdd: promise OB2, the numbers of new objects follow each other, also behind those of New and after errors,
// which change nothing.
func TestAdd(t *testing.T) {
	for _, l := range lats() {
		levels := len(l.Up)
		first := objects(levels)
		for n := range len(first) {
			want := &refStore{l, cloneObjs(first[:n])}
			s := checkNew(t, l, first[:n])
			for _, o := range first[n:] {
				checkAdd(t, s, o, len(want.objs), 0)
				want.objs = append(want.objs, o)
				checkStore(t, s, want)
			}
			for _, o := range noObjects(levels) {
				checkAdd(t, s, o, 0, api.ErrArg)
			}
			checkStore(t, s, want)
			checkAdd(t, s, object.Obj{Class: 7}, len(first), 0)
		}
	}
}

// TestAddNothing: promise OB2 and general rule 3, nil and an empty slice are the same.
func TestAddNothing(t *testing.T) {
	s := checkNew(t, lattice.Square(), []object.Obj{{Class: 5, F: []api.Val{}, B: "a"}})
	checkAdd(t, s, object.Obj{Class: 5, F: []api.Val{}, B: "b"}, 1, 0)
	checkAdd(t, s, object.Obj{Class: 6, F: []api.Val{}}, 2, 0)
	checkAdd(t, s, object.Obj{Class: 6}, 3, 0)
	checkStore(t, s, &refStore{lattice.Square(), []object.Obj{{Class: 5, B: "a"}, {Class: 5, B: "b"}, {Class: 6}, {Class: 6}}})
}

// TestHash: promise OB1, written out: only objects of the same level count, and neither levels of fields nor the
// order of levels has an effect.
func TestHash(t *testing.T) {
	levels := []int{1, 0, 1, 3, 0, 2, 1, 3, 3, 0}
	hashes := []int{0, 0, 1, 0, 1, 0, 2, 1, 2, 2}
	for n := range len(levels) + 1 {
		var first []object.Obj
		for i, level := range levels[:n] {
			first = append(first, object.Obj{Class: i, Level: level, F: numbers(1, 3-level)})
		}
		s := checkNew(t, lattice.Square(), first)
		for i, level := range levels[n:] {
			checkAdd(t, s, object.Obj{Level: level}, n+i, 0)
		}
		for i, want := range hashes {
			if got, err := s.Hash(i); got != want || err != nil {
				t.Errorf("Hash(%d) is %d, %v, want %d", i, got, err, want)
			}
		}
	}
}

// TestPut: promise OB3, written out for Square: what becomes of a field of each level under each level, and the
// example of the chapter.
func TestPut(t *testing.T) {
	may := [4][4]bool{
		{true, true, true, true},
		{false, true, false, true},
		{false, false, true, true},
		{false, false, false, true},
	}
	join := [4][4]int{{0, 1, 2, 3}, {1, 1, 3, 3}, {2, 3, 2, 3}, {3, 3, 3, 3}}
	for under := range 4 {
		for field := range 4 {
			for level := range 4 {
				f := []api.Val{number(8, 0), {K: 1, L: field}, number(9, 3)}
				s := checkNew(t, lattice.Square(), []object.Obj{{Class: 6, Level: 2, F: f}})
				wantErr := api.ErrStop
				if may[under][field] {
					wantErr, f[1] = 0, api.Val{K: 4, N: 70, L: join[level][under]}
				}
				checkPut(t, s, 0, 1, under, api.Val{K: 4, N: 70, L: level}, wantErr)
				checkObject(t, s, 0, object.Obj{Class: 6, Level: 2, F: f}, 0)
			}
		}
	}
}

// TestPutLevels: promise OB3, all levels in all lattices of the tests, whatever the level of the object.
func TestPutLevels(t *testing.T) {
	for _, l := range lats() {
		levels := len(l.Up)
		for i := range levels * levels * levels {
			under, field, level := i%levels, i/levels%levels, i/levels/levels
			for own := range levels {
				want := &refStore{l, []object.Obj{{Class: 11, Level: own, F: numbers(2, field)}}}
				s := checkNew(t, l, want.objs)
				checkPut(t, s, 0, 1, under, number(-5, level), want.put(0, 1, under, number(-5, level)))
				checkStore(t, s, want)
			}
		}
	}
}

// TestPutErrors: promise OB3, each error together with those behind it in the order, and none of them changes
// anything.
func TestPutErrors(t *testing.T) {
	for _, l := range lats() {
		levels, bottom, top := len(l.Up), l.Bottom(), l.Top()
		want := &refStore{l, []object.Obj{
			{Class: 6, F: numbers(3, bottom)}, {Class: 5, B: "abc"}, {Class: 7}, {Class: 6, F: numbers(256, top)}}}
		s := checkNew(t, l, want.objs)
		places := [][2]int{{0, 3}, {0, 256}, {1, 0}, {1, 2}, {2, 0}, {3, 256}}
		for _, i := range outside(4) {
			places = append(places, [2]int{i, 0}, [2]int{i, i}, [2]int{0, min(i, -1)}, [2]int{3, max(i, 256)})
		}
		for _, p := range append(places, [2]int{0, 0}, [2]int{3, 255}) {
			for _, v := range noValues(levels) {
				checkPut(t, s, p[0], p[1], bottom, v, api.ErrArg)
				checkPut(t, s, p[0], p[1], top, v, api.ErrArg)
				checkPut(t, s, p[0], p[1], levels, v, api.ErrArg)
			}
			for _, under := range noLevels(levels) {
				checkPut(t, s, p[0], p[1], under, number(1, bottom), api.ErrArg)
			}
		}
		for _, p := range places {
			for under := range levels {
				checkPut(t, s, p[0], p[1], under, number(1, top), api.ErrRange)
			}
		}
		for under := range levels {
			if under != bottom {
				checkPut(t, s, 0, 2, under, number(1, under), api.ErrStop)
			}
		}
		checkStore(t, s, want)
	}
}

// TestPutValues: promises OB3 and OB4, every kind of value at each of 256 fields, also a Ref to no object.
func TestPutValues(t *testing.T) {
	want := &refStore{lattice.Square(), []object.Obj{{Class: 6}, {Class: 6, F: numbers(256, 0)}, {Class: 5, B: "b"}}}
	s := checkNew(t, want.l, cloneObjs(want.objs))
	for k := range 256 {
		for level := range 4 {
			for _, v := range values(level) {
				checkPut(t, s, 1, k, 0, v, 0)
				want.objs[1].F[k] = v
				if got, err := s.Get(1); err != nil || !same(got, want.objs[1]) {
					t.Fatalf("Get(1) after a Put of %v is %v, %v", v, got, err)
				}
			}
		}
		checkStore(t, s, want)
	}
}

// TestPutAgain: promises OB3 and OB4, what a Put may do depends on the value that the Put before it stored.
func TestPutAgain(t *testing.T) {
	s := checkNew(t, lattice.Square(), []object.Obj{{Class: 6, F: numbers(1, 3)}})
	for _, e := range []struct {
		under, level int
		want         api.Errno
		field        int
	}{
		{3, 0, 0, 3}, {2, 1, 0, 3}, {0, 2, 0, 2}, {1, 2, api.ErrStop, 2}, {3, 0, api.ErrStop, 2}, {2, 0, 0, 2}, {0, 0, 0, 0},
		{2, 2, api.ErrStop, 0}, {0, 1, 0, 1}, {1, 0, 0, 1}, {2, 0, api.ErrStop, 1}, {1, 2, 0, 3}, {2, 0, 0, 2},
	} {
		checkPut(t, s, 0, 0, e.under, number(0, e.level), e.want)
		checkObject(t, s, 0, object.Obj{Class: 6, F: numbers(1, e.field)}, 0)
	}
}

// TestRandom: promises OB1 to OB4, fixed random operations, valid ones and others, against the definitions.
func TestRandom(t *testing.T) {
	source := rand.New(rand.NewPCG(11, 2))
	var seen [14]int
	for _, l := range lats() {
		levels := len(l.Up)
		others, noVals := append(noObjects(levels), objects(levels)...), noValues(levels)
		for range 60 {
			s, want := filled(t, source, l)
			for range 60 {
				if source.IntN(4) == 0 {
					o := random(source, levels)
					if source.IntN(2) == 0 {
						o = pick(source, others)
					}
					i, err := want.add(o)
					checkAdd(t, s, o, i, err)
				} else {
					i, k, under := source.IntN(len(want.objs)+1)-source.IntN(2), source.IntN(4)-source.IntN(2), source.IntN(levels)
					v := pick(source, values(source.IntN(levels)))
					if source.IntN(10) == 0 {
						v = pick(source, noVals)
					}
					err := want.put(i, k, under, v)
					checkPut(t, s, i, k, under, v, err)
					seen[err]++
				}
				checkStore(t, s, want)
			}
		}
	}
	for _, err := range []api.Errno{0, api.ErrArg, api.ErrRange, api.ErrStop} {
		if seen[err] < 500 {
			t.Errorf("%d of the Puts return %v", seen[err], err)
		}
	}
}

// TestNil: the sentence ahead of the promises, the methods of a nil Store.
func TestNil(t *testing.T) {
	var s *object.Store
	if s.Len() != 0 {
		t.Errorf("Len is %d", s.Len())
	}
	for _, o := range append(objects(1), noObjects(1)...) {
		checkAdd(t, s, o, 0, api.ErrArg)
	}
	for _, i := range append(outside(0), 2) {
		checkNoObject(t, s, i, api.ErrArg)
		for _, v := range append(values(0), noValues(1)...) {
			checkPut(t, s, i, 0, 0, v, api.ErrArg)
			checkPut(t, s, i, i, i, v, api.ErrArg)
		}
	}
}

// TestTotal: promise P8 and general rule 1, arguments at the ends of what they may be cause no panic, not even
// where the Store is not one that New returned.
func TestTotal(t *testing.T) {
	ends := []int{math.MinInt, -1, 0, 1, 7, 8, math.MaxInt}
	for _, s := range []*object.Store{nil, {}, checkNew(t, lattice.Square(), objects(4))} {
		for _, a := range ends {
			for _, b := range ends {
				s.Add(a, b, []api.Val{{K: 255, N: a, L: b}}, strings.Repeat("b", 2000))
				s.Put(a, b, a, api.Val{K: 4, N: b, L: a})
				s.Put(b, a, a, api.Val{K: 3, N: a})
				s.Get(a)
				s.Hash(a)
				s.Len()
			}
		}
	}
}
