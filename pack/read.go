package pack

import (
	"bytes"

	"colloquy/api"
	"colloquy/varint"
)

// Reader holds the bytes that are not read yet. It has none once a call failed.
type Reader struct {
	rest   []byte
	failed bool
}

// Read returns a Reader for b.
func Read(b []byte) *Reader {
	return &Reader{rest: bytes.Clone(b)}
}

// Int reads a number, which must be from lo to hi.
func (r *Reader) Int(lo, hi int) int {
	if r == nil {
		return 0
	}
	n, size, err := varint.Get(r.rest)
	if err != nil || n < lo || n > hi {
		r.fail()
		return 0
	}
	r.rest = r.rest[size:]
	return n
}

// Ints reads a number of elements, which must be from 0 to many, and the elements, each of which must be
// from lo to hi.
func (r *Reader) Ints(many, lo, hi int) []int {
	if r == nil {
		return nil
	}
	var l []int
	for range r.count(many) {
		l = append(l, r.Int(lo, hi))
		if r.failed {
			return nil
		}
	}
	return l
}

// Text reads a number of bytes, which must be from 0 to many, and the bytes.
func (r *Reader) Text(many int) string {
	if r == nil {
		return ""
	}
	n := r.count(many)
	s := string(r.rest[:n])
	r.rest = r.rest[n:]
	return s
}

// Done returns ErrForm if a call failed or if unread bytes remain.
func (r *Reader) Done() error {
	if r == nil || r.failed || len(r.rest) > 0 {
		return api.ErrForm
	}
	return nil
}

// count reads a number of elements or bytes, which is not greater than the number of bytes that remain
// after it.
func (r *Reader) count(many int) int {
	n := r.Int(0, many)
	if n > len(r.rest) {
		r.fail()
		return 0
	}
	return n
}

func (r *Reader) fail() {
	*r = Reader{failed: true}
}
