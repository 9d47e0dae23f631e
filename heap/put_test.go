package heap_test

import (
	"testing"

	"colloquy/api"
	"colloquy/heap"
	"colloquy/lattice"
	"colloquy/object"
)

// TestPutLevels: promises HP2 and OB3, all levels in all lattices of the tests, whatever the level of the object.
func TestPutLevels(t *testing.T) {
	for _, l := range lats() {
		levels := len(l.Up)
		for i := range levels * levels * levels {
			under, field, level := i%levels, i/levels%levels, i/levels/levels
			for own := range levels {
				h, want := filled(t, l, object.Obj{Class: 11, Level: own, F: numbers(2, field)})
				checkPut(t, h, 0, 1, under, number(-5, level), want.put(t, 0, 1, under, number(-5, level)))
				checkObject(t, h, 0, want.items[0].O, 0)
			}
		}
	}
}

// TestPutErrors: promises HP2 and OB3, everything that may be wrong with the arguments, alone and together, also
// for an object that was removed; what gives an error changes nothing.
func TestPutErrors(t *testing.T) {
	var seen [14]int
	for _, l := range lats() {
		levels, bottom, top := len(l.Up), l.Bottom(), l.Top()
		h, want := filled(t, l, object.Obj{Class: 6, F: numbers(3, bottom)}, object.Obj{Class: 6, F: numbers(4, bottom)},
			object.Obj{Class: 5, B: "abc"}, object.Obj{Class: 7}, object.Obj{Class: 6, F: numbers(256, top)})
		roots := [][]api.Val{refs(0, 2, 3, 4)}
		checkCollect(t, h, want.collect(roots), roots...)
		places := [][2]int{{0, 0}, {0, 2}, {0, 3}, {0, 256}, {1, 0}, {1, 3}, {2, 0}, {2, 2}, {3, 0}, {4, 255}, {4, 256}}
		for _, i := range outside(5) {
			places = append(places, [2]int{i, 0}, [2]int{i, i}, [2]int{0, min(i, -1)}, [2]int{4, max(i, 256)})
		}
		vals := append(noValues(levels), number(1, bottom), number(2, top), ref(1))
		for _, p := range places {
			for _, under := range append(noLevels(levels), 0, bottom, levels/2, top) {
				for _, v := range vals {
					err := want.put(t, p[0], p[1], under, v)
					checkPut(t, h, p[0], p[1], under, v, err)
					seen[err]++
				}
			}
		}
		checkHeap(t, h, want)
	}
	if min(seen[0], seen[api.ErrArg], seen[api.ErrRange], seen[api.ErrStop]) < 30 {
		t.Errorf("the Puts return %v", seen)
	}
}

// TestPutValues: promises HP2 and OB4, every kind of value at each of 256 fields, also a Ref to no object.
func TestPutValues(t *testing.T) {
	o := object.Obj{Class: 6, F: numbers(256, 0)}
	h, want := filled(t, lattice.Square(), object.Obj{Class: 6}, o, object.Obj{Class: 5, B: "b"})
	for k := range 256 {
		for level := range 4 {
			for _, v := range values(level) {
				checkPut(t, h, 1, k, 0, v, 0)
				o.F[k] = v
				if got, err := h.Get(1); err != nil || !same(got, o) {
					t.Fatalf("Get(1) after a Put of %v is %v, %v", v, got, err)
				}
			}
		}
	}
	want.items[1] = heap.Item{I: 1, Hash: 1, O: o}
	checkHeap(t, h, want)
}
