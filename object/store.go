package object

import (
	"slices"

	"colloquy/api"
	"colloquy/lattice"
)

// Store holds objects, each under its number.
type Store struct {
	lat    lattice.Lat
	items  []item
	counts [api.MaxLevels]int // how many objects each level has
}

// item is an object, and how many objects of its level have a smaller number.
type item struct {
	obj  Obj
	hash int
}

// New returns a Store with the objects first, whose numbers are their indices.
func New(l lattice.Lat, first []Obj) (*Store, error) {
	if err := lattice.Check(l); err != nil {
		return nil, err
	}
	isOther := func(o Obj) bool { return !May(len(l.Up), o) }
	if len(first) > api.MaxObjects || slices.ContainsFunc(first, isOther) {
		return nil, api.ErrArg
	}
	s := &Store{lat: lattice.Lat{Up: slices.Clone(l.Up)}}
	for _, o := range first {
		s.add(o)
	}
	return s, nil
}

// Add adds an object and returns its number.
func (s *Store) Add(class, level int, f []api.Val, b string) (int, error) {
	o := Obj{class, level, f, b}
	if s == nil || !May(s.levels(), o) {
		return 0, api.ErrArg
	}
	if len(s.items) >= api.MaxObjects {
		return 0, api.ErrFull
	}
	s.add(o)
	return len(s.items) - 1, nil
}

// Get returns object i.
func (s *Store) Get(i int) (Obj, error) {
	if err := s.find(i); err != nil {
		return Obj{}, err
	}
	return s.items[i].obj.copied(), nil
}

// Put replaces field k of object i by v, at the join of its level and under. It returns ErrStop where under is not
// at or below the level of the field's value: who sees that value would learn something of what decided to replace
// it.
func (s *Store) Put(i, k, under int, v api.Val) error {
	if s == nil || !Value(s.levels(), v) || !isIndex(under, s.levels()) {
		return api.ErrArg
	}
	if err := s.find(i); err != nil {
		return err
	}
	fields := s.items[i].obj.F
	if !isIndex(k, len(fields)) {
		return api.ErrRange
	}
	if !s.lat.Leq(under, fields[k].L) {
		return api.ErrStop
	}
	v.L = s.lat.Join(v.L, under)
	fields[k] = v
	return nil
}

// Hash returns the number of objects that have the level of object i and a smaller number.
func (s *Store) Hash(i int) (int, error) {
	if err := s.find(i); err != nil {
		return 0, err
	}
	return s.items[i].hash, nil
}

// Len returns the number of objects.
func (s *Store) Len() int {
	if s == nil {
		return 0
	}
	return len(s.items)
}

// find returns an error if there is no object i.
func (s *Store) find(i int) error {
	if s == nil {
		return api.ErrArg
	}
	if !isIndex(i, len(s.items)) {
		return api.ErrRange
	}
	return nil
}

// add adds a valid object, where there is room for it.
func (s *Store) add(o Obj) {
	s.items = append(s.items, item{o.copied(), s.counts[o.Level]})
	s.counts[o.Level]++
}

func (s *Store) levels() int {
	return len(s.lat.Up)
}
