package method_test

import (
	"math"
	"math/rand/v2"
	"slices"
	"strings"
	"testing"

	"colloquy/method"
	"colloquy/op"
)

// checkSame checks Same for two methods in both orders.
func checkSame(t *testing.T, a, b method.Method, want bool) {
	t.Helper()
	if method.Same(a, b) != want || method.Same(b, a) != want {
		t.Fatalf("Same(%v, %v) is %t, and in the other order %t, want %t", a, b, method.Same(a, b), method.Same(b, a), want)
	}
}

// unlike returns methods of which no two are equal, many of them invalid. Each but the first one differs from
// it in one field, or in how much belongs to a field.
func unlike() []method.Method {
	list := []method.Method{sample(), {}}
	for _, change := range []func(m *method.Method){
		func(m *method.Method) { m.Sel = "" },
		func(m *method.Method) { m.Sel = "at:pus:" },
		func(m *method.Method) { m.Sel += " " },
		func(m *method.Method) { m.Sel = strings.Repeat("x", 2000) },
		func(m *method.Method) { m.Lits = nil },
		func(m *method.Method) { m.Lits = m.Lits[:6] },
		func(m *method.Method) { m.Lits = append(m.Lits, method.Lit{}) },
		func(m *method.Method) { m.Lits[0].K = 1 },
		func(m *method.Method) { m.Lits[6].K = 255 },
		func(m *method.Method) { m.Lits[0].S = "-12 " },
		func(m *method.Method) { m.Lits[1].S = "any text\xfe\x00'" },
		func(m *method.Method) { m.Lits[6].S = "0" },
		func(m *method.Method) { m.Lits[0].S, m.Lits[1].S = "-12any", " text\xff\x00'" },
		func(m *method.Method) { slices.Reverse(m.Lits) },
		func(m *method.Method) { m.Lits = slices.Repeat(m.Lits, 20) },
		func(m *method.Method) { m.Parts = nil },
		func(m *method.Method) { m.Parts = m.Parts[:4] },
		func(m *method.Method) { m.Parts = append(m.Parts, method.Part{}) },
		func(m *method.Method) { slices.Reverse(m.Parts) },
		func(m *method.Method) { m.Parts = slices.Repeat(m.Parts, 20) },
		func(m *method.Method) { m.Parts[0].Outer = 0 },
		func(m *method.Method) { m.Parts[4].Outer = 1 },
		func(m *method.Method) { m.Parts[4].Outer = math.MinInt },
		func(m *method.Method) { m.Parts[4].Outer = math.MaxInt },
		func(m *method.Method) { m.Parts[0].Args = 3 },
		func(m *method.Method) { m.Parts[4].Args = 1 },
		func(m *method.Method) { m.Parts[4].Args = -1 },
		func(m *method.Method) { m.Parts[4].Args = 1 << 32 },
		func(m *method.Method) { m.Parts[0].Temps = 2 },
		func(m *method.Method) { m.Parts[4].Temps = 2 },
		func(m *method.Method) { m.Parts[4].Temps = math.MinInt },
		func(m *method.Method) { m.Parts[4].Args, m.Parts[4].Temps = 1, 0 },
		func(m *method.Method) { m.Parts[0].Code = nil },
		func(m *method.Method) { m.Parts[0].Code[0] = op.False },
		func(m *method.Method) { m.Parts[4].Code[8] = 200 },
		func(m *method.Method) { m.Parts[4].Code = m.Parts[4].Code[:7] },
		func(m *method.Method) { m.Parts[4].Code = append(m.Parts[4].Code, 0) },
		func(m *method.Method) { m.Parts[4].Code = make([]byte, 1000) },
	} {
		m := sample()
		change(&m)
		list = append(list, m)
	}
	return list
}

// TestSame: promise MT1, methods of which no two are equal, and copies of them.
func TestSame(t *testing.T) {
	for i, a := range unlike() {
		for j, b := range unlike() {
			checkSame(t, a, b, i == j)
			checkSame(t, a, clone(b), i == j)
			if refSame(a, b) != (i == j) {
				t.Fatalf("by the definition, %d and %d are equal: %t", i, j, i != j)
			}
		}
	}
}

// TestSameNil: promise MT1 and general rule 3, a nil slice is the same as an empty one, and spare capacity does
// not count.
func TestSameNil(t *testing.T) {
	none := method.Method{}
	empty := method.Method{Lits: []method.Lit{}, Parts: make([]method.Part, 0, 10)}
	checkSame(t, none, empty, true)
	noCode := method.Method{Parts: []method.Part{{}}}
	emptyCode := method.Method{Parts: []method.Part{{Code: []byte{}}}}
	checkSame(t, noCode, emptyCode, true)
	checkSame(t, noCode, none, false)
	for _, m := range unlike() {
		checkSame(t, m, roomy(m, 5), true)
		checkSame(t, m, plain(m), true)
	}
}

// TestSameRandom: promise MT1, fixed random methods, copies of them, and such with a change, against the
// definition.
func TestSameRandom(t *testing.T) {
	source := rand.New(rand.NewPCG(9, 3))
	counts := [2]int{}
	for range 5000 {
		m := random(source)
		checkSame(t, m, clone(m), true)
		for range 5 {
			changed := damaged(source, m)
			want := refSame(m, changed)
			checkSame(t, m, changed, want)
			counts = added(counts, want)
		}
		other := random(source)
		checkSame(t, m, other, refSame(m, other))
	}
	if counts[0] < 10000 || counts[1] < 100 {
		t.Errorf("unequal and equal methods: %d", counts)
	}
}
