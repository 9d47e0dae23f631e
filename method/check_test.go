package method_test

import (
	"math"
	"math/big"
	"math/rand/v2"
	"slices"
	"strings"
	"testing"

	"colloquy/api"
	"colloquy/method"
	"colloquy/op"
)

// checkValid checks whether a method is valid, and that the definition agrees.
func checkValid(t *testing.T, name string, m method.Method, vars, classes int, want bool) {
	t.Helper()
	n := errno(t, method.Check(m, vars, classes))
	if want && n != 0 || !want && n != api.ErrCode {
		t.Errorf("%s: Check(%v, %d, %d) is error %d, want %t", name, m, vars, classes, n, want)
	}
	if refValid(m, vars, classes) != want {
		t.Errorf("%s: by the definition, %v is valid for %d, %d: %t", name, m, vars, classes, !want)
	}
}

// checkDefinition compares Check to the definition. It returns whether the method is valid.
func checkDefinition(t *testing.T, m method.Method, vars, classes int) bool {
	t.Helper()
	n := errno(t, method.Check(m, vars, classes))
	want := refValid(m, vars, classes)
	if want && n != 0 || !want && n != api.ErrCode {
		t.Fatalf("Check(%v, %d, %d) is error %d, want %t", m, vars, classes, n, want)
	}
	return want
}

// TestCheckSample: promise MT1, a valid method with all instructions, the shortest one, and the zero Method.
func TestCheckSample(t *testing.T) {
	checkValid(t, "sample", sample(), someVars, someClasses, true)
	checkValid(t, "simple", simple(one(op.Me)), 0, 0, true)
	checkValid(t, "zero", method.Method{}, someVars, someClasses, false)
	seen := map[uint8]bool{}
	for _, p := range sample().Parts {
		ops, _, _ := op.Decode(p.Code)
		for _, o := range ops {
			seen[o.Code] = true
		}
	}
	if len(seen) != 21 {
		t.Errorf("the sample has %d instructions", len(seen))
	}
}

// TestCheckSelector: promise MT1, Sel is a selector, with as many arguments as the first part has.
func TestCheckSelector(t *testing.T) {
	for _, sel := range append(selectors(), notSelectors()...) {
		want, ok := refArity(sel)
		for args := -1; args <= 17; args++ {
			m := simple(one(op.Me))
			m.Sel, m.Parts[0].Args, m.Parts[0].Temps = sel, args, 16
			checkValid(t, sel, m, 0, 0, ok && args == want)
		}
	}
}

// TestCheckLiterals: promise MT1, literals of each kind that are valid or not, whether code uses them or not.
func TestCheckLiterals(t *testing.T) {
	power := new(big.Int).Lsh(big.NewInt(1), 64*32).String()
	below := new(big.Int).Sub(new(big.Int).Lsh(big.NewInt(1), 64*32), big.NewInt(1)).String()
	for _, e := range []struct {
		k    uint8
		s    string
		want bool
	}{
		{0, "0", true}, {0, "7", true}, {0, "-1", true}, {0, "10", true}, {0, "2305843009213693952", true},
		{0, strings.Repeat("9", 616), true}, {0, "-" + strings.Repeat("9", 616), true},
		{0, below, true}, {0, "-" + below, true},
		{0, power, false}, {0, "-" + power, false}, {0, strings.Repeat("9", 700), false},
		{0, "1" + strings.Repeat("0", 700), false}, {0, strings.Repeat("0", 700), false},
		{0, "", false}, {0, "-", false}, {0, "-0", false}, {0, "00", false}, {0, "01", false}, {0, "-01", false},
		{0, "+1", false}, {0, "--1", false}, {0, " 1", false}, {0, "1 ", false}, {0, "1\n", false}, {0, "1.0", false},
		{0, "1e3", false}, {0, "0x1", false}, {0, "1_0", false}, {0, "a", false}, {0, "foo", false}, {0, "\u0661", false},
		{1, "", true}, {1, "foo", true}, {1, "a text", true}, {1, "\x00\xff'\"\n", true},
		{1, strings.Repeat("a", 1024), true}, {1, strings.Repeat("a", 1025), false}, {1, strings.Repeat("\xff", 1024), true},
		{1, strings.Repeat("é", 512), true}, {1, strings.Repeat("é", 513), false}, {1, strings.Repeat("é", 1024), false},
		{1, strings.Repeat("0", 1<<16), false},
		{2, "", false}, {2, "0", false}, {2, "Foo", false}, {2, "foo bar", false},
		{3, "", false}, {3, "0", false}, {3, "foo", false}, {128, "0", false}, {255, "", false}, {255, "+", false},
		{254, "7", false}, {253, "", false},
	} {
		unused := simple(one(op.Me))
		unused.Lits = []method.Lit{{K: 1}, {e.k, e.s}, {K: 0, S: "1"}}
		checkValid(t, "unused", unused, 0, 0, e.want)
		used := simple(one(op.Lit, 1), one(op.Answer))
		used.Lits = unused.Lits
		checkValid(t, "used", used, 0, 0, e.want && e.k < 2)
	}
	for _, s := range append(selectors(), notSelectors()...) {
		m := simple(one(op.Me))
		m.Lits = []method.Lit{{K: 2, S: s}}
		_, ok := refArity(s)
		checkValid(t, "selector", m, 0, 0, ok)
	}
}

// TestCheckCounts: promise MT1, up to 64 literals and from 1 to 64 parts, and the last one of each, which code
// may use.
func TestCheckCounts(t *testing.T) {
	for _, n := range []int{0, 1, 2, 63, 64, 65, 66, 255, 256, 257, 1000} {
		m := simple(one(op.Me))
		m.Lits = slices.Repeat([]method.Lit{{K: 1, S: "a"}}, n)
		checkValid(t, "literals", m, 0, 0, n <= 64)
		m.Parts[0].Code = code(one(op.Lit, min(max(n-1, 0), 255)), one(op.Answer))
		checkValid(t, "last literal", m, 0, 0, n >= 1 && n <= 64)

		m = simple(one(op.Me))
		m.Parts = append(m.Parts, slices.Repeat([]method.Part{{Code: code(one(op.Nil), one(op.Home))}}, n)...)
		checkValid(t, "parts", m, 0, 0, n+1 <= 64)
		m.Parts[0].Code = code(one(op.Block, min(n, 255)), one(op.Answer))
		checkValid(t, "last part", m, 0, 0, n >= 1 && n+1 <= 64)
		m.Parts = m.Parts[1:]
		checkValid(t, "parts without the first one", m, 0, 0, false)
	}
}

// TestCheckOuter: promise MT1, the Outer of the first part is -1, and that of another part is an earlier one.
func TestCheckOuter(t *testing.T) {
	for _, outer := range append(edges(), 4, 5, 6) {
		for i := range 6 {
			m := simple(one(op.Me))
			m.Parts = append(m.Parts, slices.Repeat([]method.Part{{Code: code(one(op.Nil), one(op.Answer))}}, 5)...)
			m.Parts[i].Outer = outer
			checkValid(t, "outer", m, 0, 0, i == 0 && outer == -1 || i > 0 && outer >= 0 && outer < i)
		}
	}
}

// TestCheckSizes: promise MT1, Args is from 0 to 8, and Temps from Args to 16, in each part.
func TestCheckSizes(t *testing.T) {
	for _, args := range edges() {
		for _, temps := range edges() {
			m := simple(one(op.Me))
			block := method.Part{Code: code(one(op.Nil), one(op.Home))}
			m.Parts = append(m.Parts, block, block, block)
			for i := range m.Parts {
				changed := clone(m)
				changed.Parts[i].Args, changed.Parts[i].Temps = args, temps
				want := args >= 0 && args <= 8 && temps >= args && temps <= 16 && (i > 0 || args == 0)
				checkValid(t, "sizes", changed, 0, 0, want)
			}
		}
	}
}

// TestCheckCode: promise MT1, the code of each part is well-formed: it is not empty, not too long, not cut
// short, does not fall off its end, and fits the stack.
func TestCheckCode(t *testing.T) {
	for _, e := range []struct {
		name string
		code []byte
		want bool
	}{
		{"none", nil, false},
		{"empty", []byte{}, false},
		{"answer", code(one(op.Nil), one(op.Answer)), true},
		{"no value to answer", code(one(op.Answer)), false},
		{"no value to pop", code(one(op.Pop), one(op.Nil), one(op.Answer)), false},
		{"no end", code(one(op.Nil)), false},
		{"no instruction", []byte{op.Nil, 21, op.Answer}, false},
		{"not even reached", []byte{op.Nil, op.Answer, 255}, false},
		{"cut short", []byte{op.Nil, op.Answer, op.Jump, 0}, false},
		{"jump to its end", code(one(op.Jump, 3)), false},
		{"jump into an instruction", code(one(op.Jump, 1)), false},
		{"endless", code(one(op.Jump, 0)), true},
		{"no join", code(one(op.True), one(op.Else, 6, 6), one(op.Nil), one(op.Answer)), false},
		{"join", code(one(op.True), one(op.Else, 6, 6), one(op.Join), one(op.Nil), one(op.Answer)), true},
		{"two depths", code(one(op.True), one(op.Else, 7, 7), one(op.Nil), one(op.Join), one(op.Nil), one(op.Answer)), false},
		{"32 values", code(append(times(op.Nil, 32), one(op.Answer))...), true},
		{"33 values", code(append(times(op.Nil, 33), one(op.Answer))...), false},
		{"512 bytes", code(append(times(op.Join, 510), one(op.Nil), one(op.Answer))...), true},
		{"513 bytes", slices.Concat(make([]byte, 511), []byte{op.Nil, op.Answer}), false},
		{"513 bytes that are code", slices.Concat(code(times(op.Join, 511)...), []byte{op.Nil, op.Answer}), false},
	} {
		for i := range 5 {
			m := sample()
			m.Parts[i].Code = e.code
			checkValid(t, e.name, m, someVars, someClasses, e.want)
		}
	}
}

// swap returns a change of the sample: the first instruction of a part that is like one becomes another.
func swap(part int, from, to op.Op) func(m *method.Method) {
	return func(m *method.Method) {
		l, _, _ := op.Decode(m.Parts[part].Code)
		l[slices.Index(l, from)] = to
		m.Parts[part].Code = code(l...)
	}
}

// TestCheckChanges: promise MT1, conditions of an instruction that are broken alone, or just not.
func TestCheckChanges(t *testing.T) {
	for _, c := range []struct {
		name string
		make func(m *method.Method)
		want bool
	}{
		{"send of a selector with more arguments", swap(0, one(op.Send, 3, 1), one(op.Send, 2, 1)), false},
		{"selector with more arguments", func(m *method.Method) { m.Lits[3].S = "x" }, false},
		{"another selector with as many arguments", func(m *method.Method) { m.Lits[3].S = "x:" }, true},
		{"send of a string", func(m *method.Method) { m.Lits[4].K = 1 }, false},
		{"super of a numeral", func(m *method.Method) { m.Lits[2] = method.Lit{K: 0, S: "0"} }, false},
		{"lit of a selector", func(m *method.Method) { m.Lits[0] = method.Lit{K: 2, S: "foo"} }, false},
		{"lit of a string", func(m *method.Method) { m.Lits[0] = method.Lit{K: 1, S: "foo"} }, true},
		{"no such literal in the last part", func(m *method.Method) { m.Lits = m.Lits[:6] }, false},
		{"no such temporary in the method", func(m *method.Method) { m.Parts[0].Temps = 2 }, false},
		{"one temporary more", func(m *method.Method) { m.Parts[0].Temps = 4 }, true},
		{"no such temporary in an enclosing part", func(m *method.Method) { m.Parts[3].Temps = 15 }, false},
		{"temporary of the method, out of a block", swap(4, one(op.Set, 2, 2), one(op.Set, 2, 3)), false},
		{"temporary beyond the method", swap(4, one(op.Set, 2, 2), one(op.Set, 3, 0)), false},
		{"another block of the method", swap(0, one(op.Block, 3), one(op.Block, 1)), true},
		{"block of a block", swap(0, one(op.Block, 3), one(op.Block, 2)), false},
		{"block that is the method", swap(0, one(op.Block, 3), one(op.Block, 0)), false},
		{"block that is no part", swap(0, one(op.Block, 3), one(op.Block, 5)), false},
		{"block that is the part itself", swap(1, one(op.Block, 2), one(op.Block, 1)), false},
		{"block that encloses the part", swap(2, one(op.Lit, 5), one(op.Block, 1)), false},
		{"block of another block", swap(1, one(op.Block, 2), one(op.Block, 4)), false},
		{"home in the method", swap(0, one(op.Me), one(op.Home)), false},
		{"answer in the method", swap(0, one(op.Me), one(op.Answer)), true},
		{"me in a block", swap(1, one(op.Home), one(op.Me)), false},
		{"me in the last block", swap(4, one(op.Answer), one(op.Me)), false},
		{"home in the last block", swap(4, one(op.Answer), one(op.Home)), true},
		{"answer in a block", swap(1, one(op.Home), one(op.Answer)), true},
	} {
		m := sample()
		c.make(&m)
		checkValid(t, c.name, m, someVars, someClasses, c.want)
	}
}

// TestCheckVarsAndClasses: promise MT1, var, put and class with all operands, for any number of variables and
// classes.
func TestCheckVarsAndClasses(t *testing.T) {
	for a := range 256 {
		for _, n := range append(edges(), a-1, a, a+1) {
			for _, other := range []int{math.MinInt, 0, a, 256, math.MaxInt} {
				checkValid(t, "var", simple(one(op.Var, a), one(op.Answer)), n, other, a < n)
				checkValid(t, "put", simple(one(op.Nil), one(op.Put, a), one(op.Me)), n, other, a < n)
				checkValid(t, "class", simple(one(op.Class, a), one(op.Answer)), other, n, a < n)
			}
		}
	}
}

// TestCheckUnused: promise MT1, code without variables and classes is valid for any number of them.
func TestCheckUnused(t *testing.T) {
	for _, vars := range edges() {
		for _, classes := range edges() {
			checkValid(t, "simple", simple(one(op.Me)), vars, classes, true)
			checkDefinition(t, sample(), vars, classes)
		}
	}
}

// operands returns numbers for an operand of one byte, or only 0 for one that does not exist.
func operands(exists bool) []int {
	list := []int{0}
	for n := 1; n <= 34 && exists; n++ {
		list = append(list, n)
	}
	if exists {
		list = append(list, 63, 64, 65, 127, 128, 254, 255)
	}
	return list
}

// TestCheckOperands: promise MT1, each instruction without a target, with many operands in each part of the
// sample, reached or not, against the definition.
func TestCheckOperands(t *testing.T) {
	counts := map[uint8][2]int{}
	for c := uint8(0); c <= op.Class; c++ {
		form, _ := op.Form(c)
		if c == op.Jump || c == op.Else {
			continue
		}
		for _, a := range operands(len(form) > 0) {
			for _, b := range operands(len(form) > 1) {
				for part := range 5 {
					counts[c] = added(counts[c], checkInstruction(t, part, one(c, a, b)))
				}
			}
		}
	}
	for _, c := range []uint8{op.Lit, op.Temp, op.Set, op.Var, op.Put, op.Send, op.Super, op.Block, op.Me, op.Home,
		op.Class} {
		if counts[c][0] == 0 || counts[c][1] == 0 {
			t.Errorf("invalid and valid %s: %d", op.Name(c), counts[c])
		}
	}
}

func added(counts [2]int, valid bool) [2]int {
	if valid {
		counts[1]++
	} else {
		counts[0]++
	}
	return counts
}

// checkInstruction puts an instruction in a part, where it is reached and finds enough values or where it is not
// reached. It returns whether it is valid there.
func checkInstruction(t *testing.T, part int, o op.Op) bool {
	t.Helper()
	end := []op.Op{one(op.Nil), one(op.Answer)}
	values := 1
	if o.Code == op.Send || o.Code == op.Super {
		values = o.B + 1
	}
	m := sample()
	m.Parts[part].Code = code(slices.Concat(times(op.Nil, min(values, 31)), []op.Op{o}, end)...)
	reached := checkDefinition(t, m, someVars, someClasses)
	m.Parts[part].Code = code(slices.Concat(end, []op.Op{o}, end)...)
	if valid := checkDefinition(t, m, someVars, someClasses); reached != valid {
		t.Fatalf("part %d: %v is valid: %t, and where it is not reached: %t", part, o, reached, valid)
	}
	return reached
}

// TestCheckNested: promise MT1, temp and set in a part that up to 63 parts enclose, with many numbers of steps.
func TestCheckNested(t *testing.T) {
	m := simple(one(op.Me))
	for i := 1; i < 64; i++ {
		m.Parts = append(m.Parts, method.Part{Outer: i - 1, Temps: i % 17, Code: code(one(op.Nil), one(op.Home))})
	}
	for _, part := range []int{0, 1, 2, 31, 62, 63} {
		for _, steps := range append(operands(true), 61, 62) {
			for b := range 18 {
				outer := part - steps
				want := outer > 0 && b < outer%17
				changed := clone(m)
				changed.Parts[part].Code = code(one(op.Temp, steps, b), one(op.Answer))
				checkValid(t, "temp", changed, 0, 0, want)
				changed.Parts[part].Code = code(one(op.Nil), one(op.Set, steps, b), one(op.Nil), one(op.Answer))
				checkValid(t, "set", changed, 0, 0, want)
			}
		}
	}
}

// TestCheckRandom: promise MT1, fixed random methods, valid ones and such with one or more changes, against the
// definition.
func TestCheckRandom(t *testing.T) {
	source := rand.New(rand.NewPCG(9, 2))
	counts := [2]int{}
	for range 10000 {
		m := random(source)
		checkValid(t, "random", m, someVars, someClasses, true)
		counts = added(counts, checkDefinition(t, m, source.IntN(someVars+1), someClasses))
		counts = added(counts, checkDefinition(t, m, someVars, source.IntN(someClasses+1)))
		for range 8 {
			changed := damaged(source, m)
			for range source.IntN(3) {
				changed = damaged(source, changed)
			}
			counts = added(counts, checkDefinition(t, changed, someVars, someClasses))
		}
	}
	if counts[0] < 20000 || counts[1] < 20000 {
		t.Errorf("invalid and valid methods: %d", counts)
	}
}
