package object_test

import (
	"errors"
	"slices"
	"testing"

	"colloquy/api"
	"colloquy/lattice"
	"colloquy/object"
)

// The functions of this file follow the definitions of chapter 11 word by word. What levels are, how they are
// ordered and what their join is they take from lattice.

// errno returns the number of an error, or 0 if there is none.
func errno(t *testing.T, err error) api.Errno {
	t.Helper()
	var n api.Errno
	if err != nil && !errors.As(err, &n) {
		t.Fatalf("error %v has no number", err)
	}
	return n
}

func refValue(levels int, v api.Val) bool {
	if v.L < 0 || v.L >= levels || v.K > 5 {
		return false
	}
	least := [6]int{0, 0, 0, -1 << 61, 0, 0}
	most := [6]int{0, 0, 0, 1<<61 - 1, 65535, 63}
	return v.N >= least[v.K] && v.N <= most[v.K]
}

func refMay(levels int, o object.Obj) bool {
	if o.Class < 0 || o.Class > 63 || o.Level < 0 || o.Level >= levels {
		return false
	}
	for _, v := range o.F {
		if !refValue(levels, v) {
			return false
		}
	}
	return len(o.F) <= 256 && len(o.B) <= 1024 && !(len(o.F) > 0 && len(o.B) > 0)
}

// refStore is a Store whose Hash counts anew on each call.
type refStore struct {
	l    lattice.Lat
	objs []object.Obj
}

func (r *refStore) add(o object.Obj) (int, api.Errno) {
	if !refMay(len(r.l.Up), o) {
		return 0, 1
	}
	if len(r.objs) >= 65536 {
		return 0, 12
	}
	r.objs = append(r.objs, cloneObj(o))
	return len(r.objs) - 1, 0
}

func (r *refStore) put(i, k, under int, v api.Val) api.Errno {
	if !refValue(len(r.l.Up), v) || under < 0 || under >= len(r.l.Up) {
		return 1
	}
	if i < 0 || i >= len(r.objs) || k < 0 || k >= len(r.objs[i].F) {
		return 3
	}
	if !r.l.Leq(under, r.objs[i].F[k].L) {
		return 11
	}
	r.objs[i].F[k] = api.Val{K: v.K, N: v.N, L: r.l.Join(v.L, under)}
	return 0
}

func (r *refStore) hash(i int) int {
	n := 0
	for j := range i {
		if r.objs[j].Level == r.objs[i].Level {
			n++
		}
	}
	return n
}

// cloneObj returns a copy of o that shares no fields with it.
func cloneObj(o object.Obj) object.Obj {
	o.F = slices.Clone(o.F)
	return o
}

func cloneObjs(l []object.Obj) []object.Obj {
	l = slices.Clone(l)
	for i, o := range l {
		l[i] = cloneObj(o)
	}
	return l
}

// same reports whether two objects are equal in all fields.
func same(a, b object.Obj) bool {
	return a.Class == b.Class && a.Level == b.Level && a.B == b.B && slices.Equal(a.F, b.F)
}

// checkStore checks all that the methods tell about s, and that there is nothing beside its objects.
func checkStore(t *testing.T, s *object.Store, want *refStore) {
	t.Helper()
	if s.Len() != len(want.objs) {
		t.Fatalf("Len is %d, want %d", s.Len(), len(want.objs))
	}
	for i, o := range want.objs {
		checkObject(t, s, i, o, want.hash(i))
	}
	for _, i := range outside(len(want.objs)) {
		checkNoObject(t, s, i, api.ErrRange)
	}
}

func checkObject(t *testing.T, s *object.Store, i int, want object.Obj, hash int) {
	t.Helper()
	if got, err := s.Get(i); errno(t, err) != 0 || !same(got, want) {
		t.Fatalf("Get(%d) is %v, %v, want %v", i, got, err, want)
	}
	if got, err := s.Hash(i); errno(t, err) != 0 || got != hash {
		t.Fatalf("Hash(%d) is %d, %v, want %d", i, got, err, hash)
	}
}

// checkNoObject checks that Get and Hash return an error, and nothing else.
func checkNoObject(t *testing.T, s *object.Store, i int, want api.Errno) {
	t.Helper()
	if got, err := s.Get(i); errno(t, err) != want || !same(got, object.Obj{}) {
		t.Fatalf("Get(%d) is %v, %v, want %v", i, got, err, want)
	}
	if got, err := s.Hash(i); errno(t, err) != want || got != 0 {
		t.Fatalf("Hash(%d) is %d, %v, want %v", i, got, err, want)
	}
}

func checkPut(t *testing.T, s *object.Store, i, k, under int, v api.Val, want api.Errno) {
	t.Helper()
	if err := s.Put(i, k, under, v); errno(t, err) != want {
		t.Fatalf("Put(%d, %d, %d, %v): %v, want %v", i, k, under, v, err, want)
	}
}

func checkAdd(t *testing.T, s *object.Store, o object.Obj, want int, wantErr api.Errno) {
	t.Helper()
	if got, err := s.Add(o.Class, o.Level, o.F, o.B); errno(t, err) != wantErr || got != want {
		t.Fatalf("Add of an object of class %d at level %d with %d fields and %d bytes: %d, %v, want %d, %v",
			o.Class, o.Level, len(o.F), len(o.B), got, err, want, wantErr)
	}
}
