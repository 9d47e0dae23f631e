package method_test

import (
	"errors"
	"math/big"
	"reflect"
	"regexp"
	"testing"

	"colloquy/api"
	"colloquy/flow"
	"colloquy/method"
	"colloquy/op"
	"colloquy/varint"
)

var (
	nameForm    = regexp.MustCompile(`^[a-z][a-zA-Z0-9]*$`)
	binaryForm  = regexp.MustCompile(`^[-+*/\\<>=~,]{1,2}$`)
	keywordForm = regexp.MustCompile(`^([a-z][a-zA-Z0-9]*:){1,8}$`)
	colon       = regexp.MustCompile(`:`)
	numeralForm = regexp.MustCompile(`^(0|-?[1-9][0-9]{0,699})$`)
)

// errno returns the number of an error, or 0 if there is none.
func errno(t *testing.T, err error) api.Errno {
	t.Helper()
	var n api.Errno
	if err != nil && !errors.As(err, &n) {
		t.Fatalf("error %v has no number", err)
	}
	return n
}

func refArity(sel string) (int, bool) {
	switch {
	case len(sel) > 64:
		return 0, false
	case nameForm.MatchString(sel):
		return 0, true
	case binaryForm.MatchString(sel):
		return 1, true
	case keywordForm.MatchString(sel):
		return len(colon.FindAllString(sel, -1)), true
	}
	return 0, false
}

func refLit(l method.Lit) bool {
	switch l.K {
	case 0:
		n, ok := new(big.Int).SetString(l.S, 10)
		return ok && numeralForm.MatchString(l.S) && n.BitLen() <= 64*32
	case 1:
		return len(l.S) <= 1024
	case 2:
		_, ok := refArity(l.S)
		return ok
	}
	return false
}

// refPart reports whether the conditions of part i hold, but for those of its instructions.
func refPart(m method.Method, i int) bool {
	p := m.Parts[i]
	if i == 0 && p.Outer != -1 || i > 0 && (p.Outer < 0 || p.Outer >= i) {
		return false
	}
	return p.Args >= 0 && p.Args <= 8 && p.Temps >= p.Args && p.Temps <= 16 && flow.Check(p.Code) == nil
}

// refOutward returns the part that is reached from a part by so many steps, or -1.
func refOutward(m method.Method, part, steps int) int {
	if part < 0 || steps == 0 {
		return part
	}
	return refOutward(m, m.Parts[part].Outer, steps-1)
}

// refInstruction reports whether an instruction of a part meets its condition, where all other conditions
// hold.
func refInstruction(m method.Method, vars, classes, part int, o op.Op) bool {
	isLit := o.A < len(m.Lits)
	isSelector := isLit && m.Lits[o.A].K == 2
	switch op.Name(o.Code) {
	case "lit":
		return isLit && !isSelector
	case "send", "super":
		if !isSelector {
			return false
		}
		n, _ := refArity(m.Lits[o.A].S)
		return n == o.B
	case "temp", "set":
		outer := refOutward(m, part, o.A)
		return outer >= 0 && o.B < m.Parts[outer].Temps
	case "var", "put":
		return o.A < vars
	case "class":
		return o.A < classes
	case "block":
		return o.A < len(m.Parts) && m.Parts[o.A].Outer == part
	case "home":
		return part > 0
	case "me":
		return part == 0
	}
	return true
}

func refValid(m method.Method, vars, classes int) bool {
	args, ok := refArity(m.Sel)
	if !ok || len(m.Lits) > 64 || len(m.Parts) < 1 || len(m.Parts) > 64 || m.Parts[0].Args != args {
		return false
	}
	for _, l := range m.Lits {
		if !refLit(l) {
			return false
		}
	}
	for i := range m.Parts {
		if !refPart(m, i) {
			return false
		}
	}
	for i, p := range m.Parts {
		ops, _, _ := op.Decode(p.Code)
		for _, o := range ops {
			if !refInstruction(m, vars, classes, i, o) {
				return false
			}
		}
	}
	return true
}

func refEncodable(m method.Method) bool {
	if len(m.Sel) > 1024 || len(m.Lits) > 64 || len(m.Parts) > 64 {
		return false
	}
	for _, l := range m.Lits {
		if l.K > 2 || len(l.S) > 1024 {
			return false
		}
	}
	for _, p := range m.Parts {
		if p.Outer < -1 || p.Outer > 63 || p.Args < 0 || p.Args > 16 || p.Temps < 0 || p.Temps > 16 || len(p.Code) > 512 {
			return false
		}
	}
	return true
}

func putText(b []byte, s string) []byte {
	return append(varint.Put(b, len(s)), s...)
}

// refFields returns the fields of a method, encodable or not.
func refFields(m method.Method) []byte {
	b := putText(nil, m.Sel)
	b = varint.Put(b, len(m.Lits))
	for _, l := range m.Lits {
		b = varint.Put(b, int(l.K))
		b = putText(b, l.S)
	}
	b = varint.Put(b, len(m.Parts))
	for _, p := range m.Parts {
		b = varint.Put(b, p.Outer)
		b = varint.Put(b, p.Args)
		b = varint.Put(b, p.Temps)
		b = putText(b, string(p.Code))
	}
	return b
}

// fields reads those of an encoding. It panics with a broken where none of them can be one.
type fields struct{ rest []byte }

type broken struct{}

func (f *fields) number() int {
	n, size, err := varint.Get(f.rest)
	if err != nil {
		panic(broken{})
	}
	f.rest = f.rest[size:]
	return n
}

func (f *fields) count(most int) int {
	n := f.number()
	if n < 0 || n > most {
		panic(broken{})
	}
	return n
}

func (f *fields) text() string {
	n := f.count(len(f.rest))
	if n > len(f.rest) {
		panic(broken{})
	}
	s := string(f.rest[:n])
	f.rest = f.rest[n:]
	return s
}

// refDecode returns the method that has the fields b, or false if it is not encodable or if there is none.
func refDecode(b []byte) (m method.Method, ok bool) {
	defer func() {
		r := recover()
		if _, is := r.(broken); r != nil && !is {
			panic(r)
		}
		if r != nil {
			m, ok = method.Method{}, false
		}
	}()
	f := &fields{b}
	m.Sel = f.text()
	for range f.count(64) {
		k := f.count(2)
		m.Lits = append(m.Lits, method.Lit{K: uint8(k), S: f.text()})
	}
	for range f.count(64) {
		outer, args, temps := f.number(), f.number(), f.number()
		m.Parts = append(m.Parts, method.Part{Outer: outer, Args: args, Temps: temps, Code: []byte(f.text())})
	}
	if len(f.rest) > 0 || !refEncodable(m) {
		return method.Method{}, false
	}
	return m, true
}

// plain returns a copy of m in which no slice is nil and none has spare capacity.
func plain(m method.Method) method.Method {
	m.Lits = append(make([]method.Lit, 0, len(m.Lits)), m.Lits...)
	m.Parts = append(make([]method.Part, 0, len(m.Parts)), m.Parts...)
	for i, p := range m.Parts {
		m.Parts[i].Code = append(make([]byte, 0, len(p.Code)), p.Code...)
	}
	return m
}

// refSame reports whether two methods are equal, a nil slice being the same as an empty one.
func refSame(a, b method.Method) bool {
	return reflect.DeepEqual(plain(a), plain(b))
}
