package method_test

import (
	"math"
	"math/rand/v2"
	"slices"
	"strings"

	"colloquy/method"
	"colloquy/op"
)

// The numbers of instance variables and classes for which the methods of this file are valid.
const (
	someVars    = 3
	someClasses = 12
)

// code returns the encoding of instructions.
func code(l ...op.Op) []byte {
	b, err := op.Encode(l)
	if err != nil {
		panic(err)
	}
	return b
}

// one returns the instruction with a code and operands.
func one(code uint8, operands ...int) op.Op {
	o := op.Op{Code: code}
	for i, n := range operands {
		*[]*int{&o.A, &o.B}[i] = n
	}
	return o
}

// times returns an instruction without operands so many times.
func times(code uint8, n int) []op.Op {
	return slices.Repeat([]op.Op{one(code)}, n)
}

// simple returns the valid method foo with the code of instructions.
func simple(l ...op.Op) method.Method {
	return method.Method{Sel: "foo", Parts: []method.Part{{Outer: -1, Code: code(l...)}}}
}

// sample returns a valid method with all instructions and nested parts: 0 encloses 1 and 3, 1 encloses 2, and
// 3 encloses 4.
func sample() method.Method {
	return method.Method{
		Sel: "at:put:",
		Lits: []method.Lit{{K: 0, S: "-12"}, {K: 1, S: "any text\xff\x00'"}, {K: 2, S: "foo"}, {K: 2, S: "<="},
			{K: 2, S: "a:b:c:"}, {K: 0, S: "0"}, {K: 1}},
		Parts: []method.Part{
			{Outer: -1, Args: 2, Temps: 3, Code: code(
				one(op.True), one(op.Else, 11, 13), one(op.Nil), one(op.Pop), one(op.Jump, 13), one(op.Self), one(op.Pop),
				one(op.Join), one(op.Self), one(op.Nil), one(op.False), one(op.True), one(op.Send, 4, 3), one(op.Pop),
				one(op.Lit, 0), one(op.Lit, 1), one(op.Send, 3, 1), one(op.Super, 2, 0), one(op.Set, 0, 2),
				one(op.Temp, 0, 0), one(op.Dup), one(op.Put, 2), one(op.Put, 0), one(op.Var, 1), one(op.Pop),
				one(op.Class, 11), one(op.Pop), one(op.Block, 1), one(op.Pop), one(op.Block, 3), one(op.Me))},
			{Outer: 0, Args: 1, Temps: 2, Code: code(one(op.Block, 2), one(op.Set, 0, 1), one(op.Temp, 1, 2), one(op.Home))},
			{Outer: 1, Code: code(one(op.Temp, 2, 2), one(op.Set, 1, 0), one(op.Lit, 5), one(op.Answer))},
			{Outer: 0, Args: 8, Temps: 16, Code: code(one(op.Temp, 0, 15), one(op.Home))},
			{Outer: 3, Args: 0, Temps: 1, Code: code(one(op.Temp, 1, 15), one(op.Set, 2, 2), one(op.Lit, 6), one(op.Answer))},
		},
	}
}

// clone returns a copy of m that shares no memory with it.
func clone(m method.Method) method.Method {
	m.Lits = slices.Clone(m.Lits)
	m.Parts = slices.Clone(m.Parts)
	for i, p := range m.Parts {
		m.Parts[i].Code = slices.Clone(p.Code)
	}
	return m
}

// selectors returns selectors of all forms, and at the limits of them.
func selectors() []string {
	return []string{"foo", "a", "aB9", "x0", "self", "nil", strings.Repeat("m", 64), "+", ",", "~=", "\\\\", "--",
		"at:", "at:put:", "a:b:c:", "a:b:c:d:", "a:b:c:d:e:", "a:b:c:d:e:f:", "a:b:c:d:e:f:g:", "a:b:c:d:e:f:g:h:",
		strings.Repeat("bcdefgh:", 8), strings.Repeat("k", 63) + ":"}
}

// notSelectors returns texts that are no selector, many of them nearly one.
func notSelectors() []string {
	return []string{"", " ", "Foo", "9", "9a", "_a", "a_b", "foo ", " foo", "foo\n", "\nfoo", "a b", "a.b", "é", "aé",
		"a\xff", "\xff", "a\x00", "+++", "<=>", "+a", "a+", "+:", "a+:", "!", "&", "|", "%", "@", "?", "^", "+ ", " +",
		"+|", ":", "::", "a::", ":a", ":a:", "a:b", "a:B:", "A:b:", "a:9:", "a: b:", "a:b: ", "a:b::", "a:+:",
		"a:b:c:d:e:f:g:h:i:", "a:b:c:d:e:f:g:h:i", strings.Repeat("m", 65), strings.Repeat("k", 64) + ":",
		strings.Repeat("bcdefgh:", 8) + "i:", strings.Repeat("abcdefgh:", 8), strings.Repeat("+", 64),
		strings.Repeat("a:", 32), strings.Repeat(":", 8)}
}

// edges returns numbers at and around the limits of all fields.
func edges() []int {
	return []int{math.MinInt, math.MinInt + 1, -1 << 32, -256, -65, -2, -1, 0, 1, 2, 3, 7, 8, 9, 15, 16, 17, 31, 62,
		63, 64, 65, 127, 128, 255, 256, 511, 1 << 16, 1 << 32, math.MaxInt - 1, math.MaxInt}
}

// writer makes code of random instructions whose operands are valid for a part of a method.
type writer struct {
	source *rand.Rand
	m      method.Method
	part   int
}

// instructions returns some that leave the stack as it was, at an offset of the code.
func (w writer) instructions(offset int) []op.Op {
	values := []uint8{op.Self, op.Nil, op.True, op.False}
	value := one(values[w.source.IntN(4)])
	pop := one(op.Pop)
	switch w.source.IntN(9) {
	case 0:
		return []op.Op{value, one(op.Dup), pop, one(op.Put, w.source.IntN(someVars))}
	case 1:
		return []op.Op{one(op.Var, w.source.IntN(someVars)), pop, one(op.Join)}
	case 2:
		return []op.Op{one(op.Class, w.source.IntN(someClasses)), pop}
	case 3:
		return []op.Op{value, one(op.Else, offset+11, offset+13), value, pop, one(op.Jump, offset+13), value, pop,
			one(op.Join)}
	case 4, 5:
		return w.temporary(value)
	case 6:
		return w.block()
	}
	return w.literal()
}

// temporary returns instructions that use one of a part that encloses this one, if it has one.
func (w writer) temporary(value op.Op) []op.Op {
	steps, outer := 0, w.part
	for outer > 0 && w.source.IntN(2) == 0 {
		steps, outer = steps+1, w.m.Parts[outer].Outer
	}
	if w.m.Parts[outer].Temps == 0 {
		return nil
	}
	b := w.source.IntN(w.m.Parts[outer].Temps)
	return []op.Op{value, one(op.Set, steps, b), one(op.Temp, steps, b), one(op.Pop)}
}

// block returns instructions for each part that this one encloses.
func (w writer) block() []op.Op {
	var l []op.Op
	for i, p := range w.m.Parts {
		if p.Outer == w.part {
			l = append(l, one(op.Block, i), one(op.Pop))
		}
	}
	return l
}

// literal returns instructions for a literal, if there is one.
func (w writer) literal() []op.Op {
	if len(w.m.Lits) == 0 {
		return nil
	}
	a := w.source.IntN(len(w.m.Lits))
	if w.m.Lits[a].K != 2 {
		return []op.Op{one(op.Lit, a), one(op.Pop)}
	}
	args, _ := refArity(w.m.Lits[a].S)
	sends := []uint8{op.Send, op.Super}
	return append(times(op.Nil, args+1), one(sends[w.source.IntN(2)], a, args), one(op.Pop))
}

// code returns code that is valid for the part.
func (w writer) code() []byte {
	var b []byte
	for range w.source.IntN(12) {
		b = append(b, code(w.instructions(len(b))...)...)
	}
	ends := []op.Op{one(op.Answer), one(op.Home)}
	if w.part == 0 {
		ends[1] = one(op.Me)
	}
	b = append(b, op.Nil)
	return append(b, code(ends[w.source.IntN(2)])...)
}

func pick[E any](source *rand.Rand, l []E) E {
	return l[source.IntN(len(l))]
}

func randomLit(source *rand.Rand) method.Lit {
	switch source.IntN(3) {
	case 0:
		return method.Lit{K: 0, S: pick(source, []string{"0", "7", "-1", "123456789012345678901234567890"})}
	case 1:
		return method.Lit{K: 1, S: pick(source, []string{"", "7", "foo", "a text", "\xff\xfe\n"})}
	}
	return method.Lit{K: 2, S: pick(source, selectors())}
}

// random returns a valid method.
func random(source *rand.Rand) method.Method {
	m := method.Method{Sel: pick(source, selectors())}
	for range source.IntN(6) {
		m.Lits = append(m.Lits, randomLit(source))
	}
	for i := range 1 + source.IntN(6) {
		p := method.Part{Outer: -1, Args: source.IntN(9)}
		if i == 0 {
			p.Args, _ = refArity(m.Sel)
		} else {
			p.Outer = source.IntN(i)
		}
		p.Temps = p.Args + source.IntN(17-p.Args)
		m.Parts = append(m.Parts, p)
	}
	for i := range m.Parts {
		m.Parts[i].Code = writer{source, m, i}.code()
	}
	return m
}

// damagedCode returns b with one byte changed, removed or inserted.
func damagedCode(source *rand.Rand, b []byte) []byte {
	if len(b) == 0 {
		return []byte{op.Me}
	}
	i := source.IntN(len(b))
	c := byte(source.IntN(22))
	switch source.IntN(4) {
	case 0:
		return slices.Delete(slices.Clone(b), i, i+1)
	case 1:
		return slices.Insert(slices.Clone(b), i, c)
	case 2:
		c = byte(source.IntN(256))
	}
	b = slices.Clone(b)
	b[i] = c
	return b
}

// damagedLits returns literals of which one is changed, removed or added.
func damagedLits(source *rand.Rand, l []method.Lit) []method.Lit {
	l = slices.Clone(l)
	i := source.IntN(len(l) + 1)
	if i == len(l) || source.IntN(4) == 0 {
		return slices.Insert(l, i, randomLit(source))
	}
	switch source.IntN(5) {
	case 0:
		return slices.Delete(l, i, i+1)
	case 1:
		l[i] = randomLit(source)
	case 2:
		l[i].K = pick(source, []uint8{0, 1, 2, 3, 255})
	case 3:
		l[i].S = pick(source, append(notSelectors(), "00", "-0", "01", "+1", "1.", "1e3", "-", strings.Repeat("9", 700)))
	case 4:
		j := source.IntN(len(l))
		l[i], l[j] = l[j], l[i]
	}
	return l
}

// damaged returns a copy of m with one field, literal, part or byte of code changed, so that the method may be
// invalid.
func damaged(source *rand.Rand, m method.Method) method.Method {
	m = clone(m)
	p := &m.Parts[source.IntN(len(m.Parts))]
	n := source.IntN(20) - 2
	if source.IntN(10) == 0 {
		n = pick(source, edges())
	}
	switch source.IntN(9) {
	case 0:
		m.Sel = pick(source, append(selectors(), notSelectors()...))
	case 1, 2:
		m.Lits = damagedLits(source, m.Lits)
	case 3:
		p.Outer = n
	case 4:
		p.Args = n
	case 5:
		p.Temps = n
	case 6, 7:
		p.Code = damagedCode(source, p.Code)
	case 8:
		j := source.IntN(len(m.Parts))
		*p, m.Parts[j] = m.Parts[j], *p
	}
	return m
}
