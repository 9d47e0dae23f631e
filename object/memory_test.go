package object_test

import (
	"math/rand/v2"
	"reflect"
	"slices"
	"testing"

	"colloquy/api"
	"colloquy/lattice"
	"colloquy/object"
)

var spoilt = api.Val{K: 77, N: 77, L: 77}

// roomyObjs returns a copy of l each of whose slices has so much spare capacity, which is not zero.
func roomyObjs(l []object.Obj, spare int) []object.Obj {
	l = cloneObjs(l)
	for i, o := range l {
		l[i].F = roomy(o.F, spare, number(88, 1))
	}
	return roomy(l, spare, object.Obj{Class: 88, F: numbers(2, 88), B: "spare"})
}

// wholeObjs returns a copy of l with all that stands behind its slices.
func wholeObjs(l []object.Obj) []object.Obj {
	l = slices.Clone(whole(l))
	for i, o := range l {
		l[i].F = whole(o.F)
	}
	return cloneObjs(l)
}

func spoilVals(l []api.Val) {
	for i := range whole(l) {
		whole(l)[i] = spoilt
	}
}

func spoilObjs(l []object.Obj) {
	for _, o := range whole(l) {
		spoilVals(o.F)
	}
	for i := range whole(l) {
		whole(l)[i] = object.Obj{Class: 77, Level: 77, F: []api.Val{spoilt}, B: "spoilt"}
	}
}

// TestKeepsNothingOfNew: promise P8 and general rule 3, New does not change what it is given nor what stands
// behind it, and what becomes of that later has no effect on the Store.
func TestKeepsNothingOfNew(t *testing.T) {
	for _, l := range lats() {
		for _, spare := range []int{0, 1, 9} {
			want := &refStore{l, objects(len(l.Up))}
			first := roomyObjs(want.objs, spare)
			up := roomy(l.Up, spare, 0xa5)
			wantFirst, wantUp := wholeObjs(first), slices.Clone(whole(up))
			s := checkNew(t, lattice.Lat{Up: up}, first)
			if !reflect.DeepEqual(wholeObjs(first), wantFirst) || !slices.Equal(whole(up), wantUp) {
				t.Fatalf("New changed %v and %v to %v and %v", wantFirst, wantUp, wholeObjs(first), whole(up))
			}
			spoilObjs(first)
			for i := range whole(up) {
				whole(up)[i] = 0
			}
			checkStore(t, s, want)
			checkOrder(t, s, want)
		}
	}
}

// checkOrder checks that s still has the lattice of want, by all that Add and Put ask of it.
func checkOrder(t *testing.T, s *object.Store, want *refStore) {
	t.Helper()
	levels := len(want.l.Up)
	for i := range levels * levels * levels {
		under, field, level := i%levels, i/levels%levels, i/levels/levels
		o := object.Obj{Class: 6, Level: level, F: numbers(1, field)}
		n, err := want.add(o)
		checkAdd(t, s, o, n, err)
		checkPut(t, s, n, 0, under, number(3, level), want.put(n, 0, under, number(3, level)))
	}
	o := object.Obj{Level: levels}
	checkAdd(t, s, o, 0, api.ErrArg)
	checkStore(t, s, want)
}

// TestKeepsNothingOfAdd: promise P8 and general rule 3, the same for the fields that Add is given.
func TestKeepsNothingOfAdd(t *testing.T) {
	want := &refStore{l: lattice.Square()}
	s := checkNew(t, want.l, nil)
	for _, o := range append(objects(4), noObjects(4)...) {
		for _, spare := range []int{0, 1, 9} {
			f := roomy(o.F, spare, number(88, 1))
			before := slices.Clone(whole(f))
			i, err := want.add(o)
			checkAdd(t, s, object.Obj{Class: o.Class, Level: o.Level, F: f, B: o.B}, i, err)
			if !slices.Equal(whole(f), before) {
				t.Fatalf("Add changed %v to %v", before, whole(f))
			}
			spoilVals(f)
		}
	}
	checkStore(t, s, want)
}

// TestPutKeepsArguments: promises OB4 and P8, Put does not change slices that New and Add were given, nor what
// Get returned before.
func TestPutKeepsArguments(t *testing.T) {
	f := roomy(numbers(3, 0), 4, number(88, 0))
	first := []object.Obj{{Class: 6, F: f}}
	s := checkNew(t, lattice.Square(), first)
	checkAdd(t, s, first[0], 1, 0)
	want := slices.Clone(whole(f))
	for i := range 2 {
		before, err := s.Get(i)
		if err != nil {
			t.Fatal(err)
		}
		checkPut(t, s, i, 2, 0, number(50, 3), 0)
		if !slices.Equal(before.F, numbers(3, 0)) {
			t.Errorf("Put changed what Get returned to %v", before.F)
		}
	}
	if !slices.Equal(whole(f), want) {
		t.Errorf("Put changed %v to %v", want, whole(f))
	}
}

// TestGetNewResult: promise P8 and general rules 3 and 4, no two results of Get share memory, nor do a result and
// the Store, spare capacity included.
func TestGetNewResult(t *testing.T) {
	source := rand.New(rand.NewPCG(11, 3))
	for _, l := range lats() {
		for range 50 {
			s, want := filled(t, source, l)
			for i, o := range want.objs {
				first, _ := s.Get(i)
				second, _ := s.Get(i)
				spoilVals(first.F)
				if !same(second, o) {
					t.Fatalf("two results share memory: %v, want %v", second, o)
				}
				first.F = append(second.F[:0], spoilt)
				checkStore(t, s, want)
			}
		}
	}
}

// TestObjectsApart: promise P8 and general rule 3, objects of the same fields are changed one by one, in one
// Store and in two.
func TestObjectsApart(t *testing.T) {
	f := numbers(2, 0)
	first := []object.Obj{{Class: 6, F: f}, {Class: 6, F: f}, {Class: 7, F: f[:1]}}
	a, b := checkNew(t, lattice.Square(), first), checkNew(t, lattice.Square(), first)
	got, _ := b.Get(1)
	for _, s := range []*object.Store{a, b} {
		checkAdd(t, s, object.Obj{Class: 8, F: f}, 3, 0)
		checkAdd(t, s, object.Obj{Class: 9, F: got.F}, 4, 0)
	}
	wantA := &refStore{lattice.Square(), cloneObjs(append(first, object.Obj{Class: 8, F: f}, object.Obj{Class: 9, F: f}))}
	wantB := &refStore{lattice.Square(), cloneObjs(wantA.objs)}
	for i := range 5 {
		checkPut(t, a, i, 0, 0, number(10+i, 0), wantA.put(i, 0, 0, number(10+i, 0)))
		checkStore(t, a, wantA)
		checkStore(t, b, wantB)
		checkPut(t, b, 4-i, 0, 0, number(20+i, 1), wantB.put(4-i, 0, 0, number(20+i, 1)))
		checkStore(t, a, wantA)
		checkStore(t, b, wantB)
	}
	checkAdd(t, a, object.Obj{Level: 0}, 5, 0)
	wantA.objs = append(wantA.objs, object.Obj{})
	checkStore(t, a, wantA)
	checkStore(t, b, wantB)
}
