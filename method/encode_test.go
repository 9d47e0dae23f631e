package method_test

import (
	"bytes"
	"math"
	"math/rand/v2"
	"slices"
	"strings"
	"testing"

	"colloquy/api"
	"colloquy/method"
	"colloquy/op"
)

func checkEncode(t *testing.T, m method.Method, want []byte) {
	t.Helper()
	b, err := method.Encode(m)
	if !bytes.Equal(b, want) || err != nil {
		t.Fatalf("Encode(%v) is %x, %v, want %x", m, b, err, want)
	}
}

func checkEncodeError(t *testing.T, m method.Method) {
	t.Helper()
	b, err := method.Encode(m)
	if b != nil || errno(t, err) != api.ErrArg {
		t.Fatalf("Encode(%v) is %x, %v, want error %d", m, b, err, api.ErrArg)
	}
}

// checkEncodeDefinition compares Encode to the definition, and Decode of the fields, too. It returns whether the
// method is encodable.
func checkEncodeDefinition(t *testing.T, m method.Method) bool {
	t.Helper()
	b := refFields(m)
	if !refEncodable(m) {
		checkEncodeError(t, m)
		checkDecodeError(t, b)
		return false
	}
	checkEncode(t, m, b)
	checkDecode(t, b, m)
	return true
}

type example struct {
	m        method.Method
	encoding string
}

// examples returns methods, valid or not, and their encodings, written out.
func examples() []example {
	return []example{
		{method.Method{}, "\x00\x00\x00"},
		{method.Method{Sel: "foo"}, "\x03foo\x00\x00"},
		{simple(one(op.Me)), "\x03foo\x00\x01\x7f\x00\x00\x01\x12"},
		{method.Method{Sel: "Bad\xff", Lits: []method.Lit{{}}}, "\x04Bad\xff\x01\x00\x00\x00"},
		{method.Method{Parts: []method.Part{{}}}, "\x00\x00\x01\x00\x00\x00\x00"},
		{method.Method{Parts: []method.Part{{63, 16, 0, []byte{255, 254}}}}, "\x00\x00\x01\x3f\x10\x00\x02\xff\xfe"},
		{method.Method{
			Sel:  "at:",
			Lits: []method.Lit{{0, "-12"}, {1, "it's"}, {2, "+"}, {2, "+"}},
			Parts: []method.Part{
				{-1, 1, 2, code(one(op.Temp, 0, 0), one(op.Lit, 0), one(op.Send, 2, 1), one(op.Answer))},
				{0, 8, 16, nil},
				{1, 0, 3, code(one(op.Nil), one(op.Home))},
			},
		}, "\x03at:\x04\x00\x03-12\x01\x04it's\x02\x01+\x02\x01+" +
			"\x03\x7f\x01\x02\x09\x05\x00\x00\x04\x00\x0b\x02\x01\x11\x00\x08\x10\x00\x01\x00\x03\x02\x01\x13"},
		{method.Method{Sel: strings.Repeat("a", 64)}, "\xc0\x00" + strings.Repeat("a", 64) + "\x00\x00"},
		{method.Method{Sel: strings.Repeat("a", 1024)}, "\x80\x08" + strings.Repeat("a", 1024) + "\x00\x00"},
		{method.Method{Lits: slices.Repeat([]method.Lit{{1, "b"}}, 64)},
			"\x00\xc0\x00" + strings.Repeat("\x01\x01b", 64) + "\x00"},
		{method.Method{Lits: []method.Lit{{2, strings.Repeat("c", 1024)}}},
			"\x00\x01\x02\x80\x08" + strings.Repeat("c", 1024) + "\x00"},
		{method.Method{Parts: slices.Repeat([]method.Part{{-1, 0, 16, nil}}, 64)},
			"\x00\x00\xc0\x00" + strings.Repeat("\x7f\x00\x10\x00", 64)},
		{method.Method{Parts: []method.Part{{5, 6, 7, bytes.Repeat([]byte{200}, 512)}}},
			"\x00\x00\x01\x05\x06\x07\x80\x04" + strings.Repeat("\xc8", 512)},
	}
}

// TestEncodeExamples: promise MT2, encodings that are written out. Methods that are encodable need not be valid.
func TestEncodeExamples(t *testing.T) {
	for _, e := range examples() {
		checkEncode(t, e.m, []byte(e.encoding))
		if !checkEncodeDefinition(t, e.m) {
			t.Errorf("by the definition, %v is not encodable", e.m)
		}
	}
}

// TestEncodeNil: promise MT2 and general rule 3, a nil slice is encoded like an empty one.
func TestEncodeNil(t *testing.T) {
	checkEncode(t, method.Method{Lits: []method.Lit{}, Parts: []method.Part{}}, []byte("\x00\x00\x00"))
	checkEncode(t, method.Method{Parts: []method.Part{{Code: []byte{}}}}, []byte("\x00\x00\x01\x00\x00\x00\x00"))
}

// TestEncodeNumbers: promise MT2, each number of a part at and around its limits, in the first part and in the
// last one.
func TestEncodeNumbers(t *testing.T) {
	for _, n := range edges() {
		for _, i := range []int{0, 4} {
			outer, args, temps := sample(), sample(), sample()
			outer.Parts[i].Outer, args.Parts[i].Args, temps.Parts[i].Temps = n, n, n
			if got := checkEncodeDefinition(t, outer); got != (n >= -1 && n <= 63) {
				t.Errorf("the Outer %d is encodable: %t", n, got)
			}
			if got := checkEncodeDefinition(t, args); got != (n >= 0 && n <= 16) {
				t.Errorf("the Args %d are encodable: %t", n, got)
			}
			if got := checkEncodeDefinition(t, temps); got != (n >= 0 && n <= 16) {
				t.Errorf("the Temps %d are encodable: %t", n, got)
			}
		}
	}
}

// TestEncodeSizes: promise MT2, the sizes of Sel, of each S and each Code, and the numbers of literals and
// parts, at and around their limits.
func TestEncodeSizes(t *testing.T) {
	for _, n := range []int{0, 1, 63, 64, 65, 66, 127, 128, 129, 255, 256, 257, 511, 512, 513, 514, 1023, 1024,
		1025, 1026, 1280} {
		text := strings.Repeat("\xfe", n)
		sel, lits, parts := sample(), sample(), sample()
		sel.Sel = text
		lits.Lits = slices.Repeat(lits.Lits, 1+n/7)[:n]
		parts.Parts = slices.Repeat(parts.Parts, 1+n/5)[:n]
		if got := checkEncodeDefinition(t, sel); got != (n <= 1024) {
			t.Errorf("%d bytes of Sel are encodable: %t", n, got)
		}
		if got := checkEncodeDefinition(t, lits); got != (n <= 64) {
			t.Errorf("%d literals are encodable: %t", n, got)
		}
		if got := checkEncodeDefinition(t, parts); got != (n <= 64) {
			t.Errorf("%d parts are encodable: %t", n, got)
		}
		for _, i := range []int{0, 4} {
			lit, part := sample(), sample()
			lit.Lits[i].S, part.Parts[i].Code = text, []byte(text)
			if got := checkEncodeDefinition(t, lit); got != (n <= 1024) {
				t.Errorf("%d bytes of S are encodable: %t", n, got)
			}
			if got := checkEncodeDefinition(t, part); got != (n <= 512) {
				t.Errorf("%d bytes of Code are encodable: %t", n, got)
			}
		}
	}
}

// TestEncodeKinds: promise MT2, all kinds of literals.
func TestEncodeKinds(t *testing.T) {
	for k := range 256 {
		for i := range 7 {
			m := sample()
			m.Lits[i].K = uint8(k)
			if got := checkEncodeDefinition(t, m); got != (k <= 2) {
				t.Errorf("the K %d is encodable: %t", k, got)
			}
		}
	}
}

// TestEncodeLargest: promise MT2, all fields at their upper limits at once, and all at their lower ones.
func TestEncodeLargest(t *testing.T) {
	text := strings.Repeat("\xff", 1024)
	m := method.Method{
		Sel:   text,
		Lits:  slices.Repeat([]method.Lit{{2, text}}, 64),
		Parts: slices.Repeat([]method.Part{{63, 16, 16, bytes.Repeat([]byte{255}, 512)}}, 64),
	}
	if !checkEncodeDefinition(t, m) {
		t.Error("by the definition, the largest method is not encodable")
	}
	m = method.Method{Lits: make([]method.Lit, 64), Parts: slices.Repeat([]method.Part{{Outer: -1}}, 64)}
	if !checkEncodeDefinition(t, m) {
		t.Error("by the definition, empty literals and parts are not encodable")
	}
}

// TestEncodeUnlike: promises MT2 and MT3, methods of which no two are equal, nor their encodings.
func TestEncodeUnlike(t *testing.T) {
	seen := map[string]bool{}
	for _, m := range unlike() {
		if !checkEncodeDefinition(t, m) {
			continue
		}
		b, _ := method.Encode(m)
		if seen[string(b)] {
			t.Errorf("%v has the encoding of another method", m)
		}
		seen[string(b)] = true
	}
	if len(seen) < 20 {
		t.Errorf("only %d methods are encodable", len(seen))
	}
}

// randomFields returns a method, encodable or with one field that is not.
func randomFields(source *rand.Rand) method.Method {
	text := func(limit int) string {
		n := source.IntN(8)
		switch source.IntN(60) {
		case 0:
			n = source.IntN(limit + 1)
		case 1:
			n = limit + source.IntN(2)
		}
		b := make([]byte, n)
		for i := range b {
			b[i] = byte(source.Uint32())
		}
		return string(b)
	}
	number := func(lo, hi int) int {
		if source.IntN(100) == 0 {
			return []int{lo - 1, hi + 1, math.MinInt, math.MaxInt}[source.IntN(4)]
		}
		return lo + source.IntN(hi-lo+1)
	}
	m := method.Method{Sel: text(1024)}
	for range source.IntN(5) {
		m.Lits = append(m.Lits, method.Lit{K: uint8(number(0, 2)), S: text(1024)})
	}
	for range source.IntN(5) {
		p := method.Part{Outer: number(-1, 63), Args: number(0, 16), Temps: number(0, 16), Code: []byte(text(512))}
		m.Parts = append(m.Parts, p)
	}
	return m
}

// TestEncodeRandom: promises MT2 and MT3, fixed random fields, against the definition.
func TestEncodeRandom(t *testing.T) {
	source := rand.New(rand.NewPCG(9, 4))
	counts := [2]int{}
	for range 30000 {
		counts = added(counts, checkEncodeDefinition(t, randomFields(source)))
	}
	if counts[0] < 2000 || counts[1] < 10000 {
		t.Errorf("other and encodable methods: %d", counts)
	}
}

// TestEncodeValid: promise MT2, valid methods are encodable, and after changes against the definition.
func TestEncodeValid(t *testing.T) {
	source := rand.New(rand.NewPCG(9, 5))
	for range 3000 {
		m := random(source)
		if !checkEncodeDefinition(t, m) {
			t.Fatalf("%v is not encodable", m)
		}
		for range 5 {
			checkEncodeDefinition(t, damaged(source, m))
		}
	}
}
