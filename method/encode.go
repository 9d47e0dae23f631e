package method

import (
	"slices"

	"colloquy/api"
	"colloquy/pack"
)

// Encode returns the encoding of m, which must be encodable, but need not be valid.
func Encode(m Method) ([]byte, error) {
	if !m.encodable() {
		return nil, api.ErrArg
	}
	w := &pack.Writer{}
	w.Text(m.Sel)
	w.Int(len(m.Lits))
	for _, l := range m.Lits {
		w.Int(int(l.K))
		w.Text(l.S)
	}
	w.Int(len(m.Parts))
	for _, p := range m.Parts {
		w.Int(p.Outer, p.Args, p.Temps)
		w.Text(string(p.Code))
	}
	return w.All(), nil
}

// Decode returns the method that b is the encoding of.
func Decode(b []byte) (Method, error) {
	r := pack.Read(b)
	m := Method{Sel: r.Text(api.MaxBytes)}
	for range r.Int(0, api.MaxLits) {
		m.Lits = append(m.Lits, readLit(r))
	}
	for range r.Int(0, maxParts) {
		m.Parts = append(m.Parts, readPart(r))
	}
	if r.Done() != nil {
		return Method{}, api.ErrForm
	}
	return m, nil
}

func readLit(r *pack.Reader) Lit {
	k := r.Int(number, selector)
	return Lit{uint8(k), r.Text(api.MaxBytes)}
}

func readPart(r *pack.Reader) Part {
	p := Part{
		Outer: r.Int(noPart, maxParts-1),
		Args:  r.Int(0, api.MaxTemps),
		Temps: r.Int(0, api.MaxTemps),
	}
	code := r.Text(api.MaxCode)
	p.Code = make([]byte, len(code))
	copy(p.Code, code)
	return p
}

func (m Method) encodable() bool {
	isOtherLit := func(l Lit) bool { return !l.encodable() }
	isOtherPart := func(p Part) bool { return !p.encodable() }
	return len(m.Sel) <= api.MaxBytes &&
		len(m.Lits) <= api.MaxLits && !slices.ContainsFunc(m.Lits, isOtherLit) &&
		len(m.Parts) <= maxParts && !slices.ContainsFunc(m.Parts, isOtherPart)
}

func (l Lit) encodable() bool {
	return l.K <= selector && len(l.S) <= api.MaxBytes
}

func (p Part) encodable() bool {
	return within(p.Outer, noPart, maxParts-1) && within(p.Args, 0, api.MaxTemps) &&
		within(p.Temps, 0, api.MaxTemps) && len(p.Code) <= api.MaxCode
}
