package object_test

import (
	"math"
	"math/rand/v2"
	"slices"
	"strings"
	"testing"

	"colloquy/api"
	"colloquy/object"
)

// TestValue: promise OB1 and the section Terms, values of each kind at and beyond the limits of their N.
func TestValue(t *testing.T) {
	for _, levels := range []int{1, 2, 4, 8} {
		for _, level := range []int{0, levels / 2, levels - 1} {
			for _, v := range values(level) {
				if !object.Value(levels, v) {
					t.Errorf("%v is not valid for %d levels", v, levels)
				}
			}
		}
		for _, v := range noValues(levels) {
			if object.Value(levels, v) {
				t.Errorf("%v is valid for %d levels", v, levels)
			}
		}
	}
}

// TestAllValues: promise OB1, every kind with every level and number of levels at and around their limits and
// all numbers at and around those of each kind, against the definition.
func TestAllValues(t *testing.T) {
	ns := []int{math.MinInt, math.MinInt + 1, -1<<61 - 1, -1 << 61, -1<<61 + 1, -1 << 60, -1 << 32, -65536, -65535, -256, -64,
		-2, -1, 0, 1, 2, 5, 6, 62, 63, 64, 65, 255, 256, 257, 65534, 65535, 65536, 65537, 1 << 32, 1<<32 + 1, 1 << 60, 1<<61 - 2,
		1<<61 - 1, 1 << 61, 1<<61 + 1, 1 << 62, math.MaxInt - 1, math.MaxInt}
	small := []int{math.MinInt, -1 << 32, -256, -8, -2, -1, 0, 1, 2, 3, 6, 7, 8, 9, 64, 256, 1 << 32, math.MaxInt}
	for k := range 256 {
		for _, n := range ns {
			for _, level := range small {
				for _, levels := range small {
					v := api.Val{K: uint8(k), N: n, L: level}
					if got := object.Value(levels, v); got != refValue(levels, v) {
						t.Fatalf("Value(%d, %v) is %t", levels, v, got)
					}
				}
			}
		}
	}
}

// TestEveryN: promise OB1, every N of a Ref and a Kind, and some N beyond them.
func TestEveryN(t *testing.T) {
	for n := -100; n < 66000; n++ {
		for k := range uint8(6) {
			v := api.Val{K: k, N: n, L: 1}
			if got := object.Value(2, v); got != refValue(2, v) {
				t.Fatalf("Value(2, %v) is %t", v, got)
			}
		}
	}
}

// TestNoLevels: promise OB1, nothing is valid where there is no level.
func TestNoLevels(t *testing.T) {
	for _, levels := range []int{0, -1, -8, math.MinInt} {
		for _, level := range append(noLevels(1), 0, levels, levels-1) {
			if object.Value(levels, api.Val{L: level}) || object.May(levels, object.Obj{Level: level}) {
				t.Errorf("level %d is valid for %d levels", level, levels)
			}
		}
	}
}

func checkMay(t *testing.T, levels int, o object.Obj, want bool) {
	t.Helper()
	if refMay(levels, o) != want {
		t.Fatalf("the test expects %t for %d levels and %v", want, levels, o)
	}
	if got := object.May(levels, o); got != want {
		t.Errorf("May(%d, object of class %d at level %d with %d fields and %d bytes) is %t",
			levels, o.Class, o.Level, len(o.F), len(o.B), got)
	}
}

// TestMay: promise OB1 and the section Terms, valid objects, and each condition broken alone.
func TestMay(t *testing.T) {
	for levels := 1; levels <= 8; levels++ {
		for _, o := range objects(levels) {
			checkMay(t, levels, o, true)
		}
		for _, o := range noObjects(levels) {
			checkMay(t, levels, o, false)
		}
	}
}

// TestMayNumbers: promise OB1, every class and level at and around the limits.
func TestMayNumbers(t *testing.T) {
	for class := -70; class < 140; class++ {
		checkMay(t, 3, object.Obj{Class: class}, 0 <= class && class < 64)
		checkMay(t, 3, object.Obj{Class: class, F: numbers(2, 0)}, 0 <= class && class < 64)
		checkMay(t, 3, object.Obj{Class: class, B: "b"}, 0 <= class && class < 64)
	}
	for levels := -1; levels < 10; levels++ {
		for level := -2; level < 12; level++ {
			checkMay(t, levels, object.Obj{Class: 6, Level: level}, 0 <= level && level < levels)
		}
	}
}

// TestMaySizes: promise OB1, each number of fields and of bytes at and around the limits, alone and together.
func TestMaySizes(t *testing.T) {
	for n := range 600 {
		checkMay(t, 1, object.Obj{F: numbers(n, 0)}, n <= 256)
		checkMay(t, 1, object.Obj{F: numbers(n, 0), B: "b"}, n == 0)
	}
	for n := range 2100 {
		b := strings.Repeat("b", n)
		checkMay(t, 1, object.Obj{B: b}, n <= 1024)
		checkMay(t, 1, object.Obj{F: []api.Val{}, B: b}, n <= 1024)
		checkMay(t, 1, object.Obj{F: numbers(1, 0), B: b}, n == 0)
	}
	checkMay(t, 1, object.Obj{F: numbers(1<<20, 0)}, false)
	checkMay(t, 1, object.Obj{B: strings.Repeat("b", 1<<20)}, false)
}

// TestMayBytes: promise OB1, any bytes are allowed, and they are counted, not the characters they may be.
func TestMayBytes(t *testing.T) {
	for b := range 256 {
		checkMay(t, 1, object.Obj{B: string([]byte{byte(b)})}, true)
		checkMay(t, 1, object.Obj{B: strings.Repeat(string([]byte{byte(b)}), 1024)}, true)
		checkMay(t, 1, object.Obj{B: strings.Repeat(string([]byte{byte(b)}), 1025)}, false)
	}
	checkMay(t, 1, object.Obj{B: strings.Repeat("é", 512)}, true)
	checkMay(t, 1, object.Obj{B: strings.Repeat("é", 512) + "b"}, false)
	checkMay(t, 1, object.Obj{B: strings.Repeat("\U0001f600", 256)}, true)
	checkMay(t, 1, object.Obj{B: strings.Repeat("\U0001f600", 257)}, false)
}

// TestMayFields: promise OB1, an invalid value at each place.
func TestMayFields(t *testing.T) {
	for _, n := range []int{1, 2, 3, 17, 255, 256} {
		for place := range n {
			f := numbers(n, 1)
			for _, v := range noValues(2) {
				f[place] = v
				checkMay(t, 2, object.Obj{Class: 6, F: f}, false)
			}
			for _, v := range values(1) {
				f[place] = v
				checkMay(t, 2, object.Obj{Class: 6, F: f}, true)
			}
		}
	}
}

// TestMayRandom: promise OB1, fixed random objects, with up to two changes each, against the definition.
func TestMayRandom(t *testing.T) {
	source := rand.New(rand.NewPCG(11, 1))
	valid := 0
	for range 100000 {
		levels := 1 + source.IntN(8)
		o := random(source, levels)
		for range source.IntN(3) {
			switch source.IntN(6) {
			case 0:
				o.Class = pick(source, append(outside(64), 0, 63))
			case 1:
				o.Level = pick(source, append(noLevels(levels), 0, levels-1))
			case 2:
				o.B = strings.Repeat("b", pick(source, []int{0, 1, 1023, 1024, 1025}))
			case 3:
				o.F = numbers(pick(source, []int{0, 1, 255, 256, 257}), source.IntN(levels))
			case 4:
				o.F = slices.Insert(o.F, source.IntN(len(o.F)+1), pick(source, noValues(levels)))
			case 5:
				levels = 1 + source.IntN(9)
			}
		}
		got := object.May(levels, o)
		if got != refMay(levels, o) {
			t.Fatalf("May(%d, %v) is %t", levels, o, got)
		}
		if got {
			valid++
		}
	}
	if valid < 20000 || valid > 80000 {
		t.Errorf("%d objects are valid", valid)
	}
}
