package method_test

import (
	"bytes"
	"math/rand/v2"
	"slices"
	"testing"

	"colloquy/method"
)

// roomy returns a copy of m each of whose slices has so much spare capacity, which is not zero.
func roomy(m method.Method, spare int) method.Method {
	m = clone(m)
	m.Lits = withSpare(m.Lits, spare, method.Lit{K: 99, S: "spare"})
	for i, p := range m.Parts {
		m.Parts[i].Code = withSpare(p.Code, spare, 0xa5)
	}
	m.Parts = withSpare(m.Parts, spare, method.Part{Outer: 98, Args: 97, Temps: 96, Code: []byte("spare")})
	return m
}

func withSpare[E any](l []E, spare int, filler E) []E {
	return append(slices.Clone(l), slices.Repeat([]E{filler}, spare)...)[:len(l)]
}

// whole returns l and its spare capacity.
func whole[E any](l []E) []E {
	return l[:cap(l)]
}

// wholes returns a method of all slices of m, each with its spare capacity.
func wholes(m method.Method) method.Method {
	m.Lits, m.Parts = whole(m.Lits), slices.Clone(whole(m.Parts))
	for i, p := range m.Parts {
		m.Parts[i].Code = whole(p.Code)
	}
	return m
}

// spoil changes all that m refers to, spare capacity included.
func spoil(m method.Method, c byte) {
	for _, p := range whole(m.Parts) {
		for i := range whole(p.Code) {
			whole(p.Code)[i] = c
		}
	}
	for i := range whole(m.Parts) {
		whole(m.Parts)[i] = method.Part{Outer: int(c), Args: int(c), Temps: int(c), Code: []byte{c}}
	}
	for i := range whole(m.Lits) {
		whole(m.Lits)[i] = method.Lit{K: c, S: string([]byte{c})}
	}
}

// methods returns valid methods, invalid ones, and such as are not encodable.
func methods() []method.Method {
	source := rand.New(rand.NewPCG(9, 8))
	list := unlike()
	for range 100 {
		m := random(source)
		list = append(list, m, damaged(source, m), randomFields(source))
	}
	for _, outer := range edges() {
		for _, part := range []int{0, 1, 2, 4} {
			m := sample()
			m.Parts[part].Outer = outer
			list = append(list, m)
		}
	}
	return list
}

// TestKeepsArguments: promise P8 and general rules 1, 3 and 4, no function changes a method that it is given,
// valid or not, nor what stands behind its slices, and each returns the same again.
func TestKeepsArguments(t *testing.T) {
	for _, m := range methods() {
		for _, spare := range []int{0, 1, 9} {
			given := roomy(m, spare)
			want := clone(wholes(given))
			for range 2 {
				checkDefinition(t, given, someVars, someClasses)
				checkEncodeDefinition(t, given)
				checkSame(t, given, given, true)
				checkSame(t, given, sample(), refSame(m, sample()))
			}
			if !refSame(wholes(given), want) {
				t.Fatalf("a function changed %v to %v", want, wholes(given))
			}
		}
	}
}

// TestEncodeNewResult: promise P8 and general rules 3 and 4, no two results of Encode share memory, spare
// capacity included, and what becomes of them or of the argument has no effect on the next call.
func TestEncodeNewResult(t *testing.T) {
	for _, m := range methods() {
		given := roomy(m, 3)
		first, _ := method.Encode(given)
		second, _ := method.Encode(given)
		kept := slices.Clone(first)
		spoil(given, 7)
		if !bytes.Equal(first, kept) || !bytes.Equal(second, kept) {
			t.Fatalf("Encode keeps its argument: %x, %x, want %x", first, second, kept)
		}
		for i := range whole(first) {
			whole(first)[i] ^= 0x55
		}
		if !bytes.Equal(second, kept) {
			t.Fatalf("two results share memory: %x, want %x", second, kept)
		}
		checkEncodeDefinition(t, m)
	}
}

// TestDecodeKeepsArgument: promise P8 and general rules 3 and 4, Decode does not change its argument, nor what
// stands behind it, and returns the same again.
func TestDecodeKeepsArgument(t *testing.T) {
	for _, m := range methods() {
		for _, spare := range []int{0, 1, 100} {
			b := withSpare(refFields(m), spare, 0xa5)
			want := slices.Clone(whole(b))
			checkDecodeDefinition(t, b)
			checkDecodeDefinition(t, b)
			if !bytes.Equal(whole(b), want) {
				t.Fatalf("Decode changed %x to %x", want, whole(b))
			}
		}
	}
}

// TestDecodeNewResult: promise P8 and general rules 3 and 4, a method that was decoded shares no memory with
// the bytes nor with another one, nor do two of its slices, spare capacity included.
func TestDecodeNewResult(t *testing.T) {
	for _, m := range methods() {
		b := refFields(m)
		first, err := method.Decode(b)
		if err != nil {
			continue
		}
		second, _ := method.Decode(b)
		for i := range whole(b) {
			whole(b)[i] ^= 0x55
		}
		if !refSame(first, m) || !refSame(second, m) {
			t.Fatalf("Decode keeps its argument: %v, %v, want %v", first, second, m)
		}
		checkApart(t, first)
		spoil(first, 0xee)
		if !refSame(second, m) {
			t.Fatalf("two results share memory: %v, want %v", second, m)
		}
		checkDecode(t, refFields(m), m)
	}
}

// checkApart fills the code of each part with a byte of its own, spare capacity included, and checks that this
// changed no other.
func checkApart(t *testing.T, m method.Method) {
	t.Helper()
	for i, p := range m.Parts {
		for j := range whole(p.Code) {
			whole(p.Code)[j] = byte(i)
		}
	}
	for i, p := range m.Parts {
		for _, c := range whole(p.Code) {
			if c != byte(i) {
				t.Fatalf("the code of parts %d and %d shares memory", i, c)
			}
		}
	}
}
