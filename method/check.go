package method

import (
	"slices"

	"colloquy/api"
	"colloquy/flow"
	"colloquy/large"
	"colloquy/op"
)

const (
	maxArgs = 8
	noPart  = -1
)

// scope is what instructions refer to: the literals and parts of their method, and numbers of instance
// variables and of classes.
type scope struct {
	lits          []Lit
	parts         []Part
	vars, classes int
}

// Check returns an error unless m is valid for so many instance variables and so many classes.
func Check(m Method, vars, classes int) error {
	args, ok := Arity(m.Sel)
	if !ok || !areLits(m.Lits) || !areParts(m.Parts) || m.Parts[0].Args != args {
		return api.ErrCode
	}
	s := scope{m.Lits, m.Parts, vars, classes}
	for i := range m.Parts {
		if !s.allowsCode(i) {
			return api.ErrCode
		}
	}
	return nil
}

func areLits(lits []Lit) bool {
	isOther := func(l Lit) bool { return !l.valid() }
	return len(lits) <= api.MaxLits && !slices.ContainsFunc(lits, isOther)
}

func (l Lit) valid() bool {
	switch l.K {
	case number:
		_, err := large.Parse(l.S)
		return err == nil
	case text:
		return len(l.S) <= api.MaxBytes
	case selector:
		_, ok := Arity(l.S)
		return ok
	}
	return false
}

// areParts reports whether there is a valid number of parts, and whether their fields other than Code are
// valid.
func areParts(parts []Part) bool {
	if !within(len(parts), 1, maxParts) {
		return false
	}
	for i, p := range parts {
		if !isOuter(p.Outer, i) || !within(p.Args, 0, maxArgs) || !within(p.Temps, p.Args, api.MaxTemps) {
			return false
		}
	}
	return true
}

// isOuter reports whether the part with the index i may have this Outer.
func isOuter(outer, i int) bool {
	if i == 0 {
		return outer == noPart
	}
	return within(outer, 0, i-1)
}

// allowsCode reports whether the code of part p is well-formed, and whether all that its instructions refer to
// exists.
func (s scope) allowsCode(p int) bool {
	code := s.parts[p].Code
	if flow.Check(code) != nil {
		return false
	}
	ops, _, err := op.Decode(code)
	isOther := func(o op.Op) bool { return !s.allows(p, o) }
	return err == nil && !slices.ContainsFunc(ops, isOther)
}

func (s scope) allows(p int, o op.Op) bool {
	switch o.Code {
	case op.Lit:
		return o.A < len(s.lits) && s.lits[o.A].K != selector
	case op.Send, op.Super:
		return s.takes(o.A, o.B)
	case op.Temp, op.Set:
		outer := s.outward(p, o.A)
		return outer != noPart && o.B < s.parts[outer].Temps
	case op.Var, op.Put:
		return o.A < s.vars
	case op.Class:
		return o.A < s.classes
	case op.Block:
		return o.A < len(s.parts) && s.parts[o.A].Outer == p
	case op.Home:
		return p != 0
	case op.Me:
		return p == 0
	}
	return true
}

// takes reports whether a literal is a selector that takes so many arguments.
func (s scope) takes(lit, args int) bool {
	if lit >= len(s.lits) || s.lits[lit].K != selector {
		return false
	}
	n, ok := Arity(s.lits[lit].S)
	return ok && n == args
}

// outward returns the part that is so many steps outward from part p, or -1 if there is none.
func (s scope) outward(p, steps int) int {
	for range steps {
		if p == noPart {
			break
		}
		p = s.parts[p].Outer
	}
	return p
}
