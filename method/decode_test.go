package method_test

import (
	"math"
	"math/rand/v2"
	"slices"
	"strings"
	"testing"

	"colloquy/api"
	"colloquy/method"
	"colloquy/varint"
)

func checkDecode(t *testing.T, b []byte, want method.Method) {
	t.Helper()
	m, err := method.Decode(b)
	if !refSame(m, want) || err != nil {
		t.Fatalf("Decode(%x) is %v, %v, want %v", b, m, err, want)
	}
}

func checkDecodeError(t *testing.T, b []byte) {
	t.Helper()
	m, err := method.Decode(b)
	if m.Sel != "" || m.Lits != nil || m.Parts != nil || errno(t, err) != api.ErrForm {
		t.Fatalf("Decode(%x) is %v, %v, want error %d", b, m, err, api.ErrForm)
	}
}

// checkDecodeDefinition compares Decode to the definition. It returns whether b is an encoding.
func checkDecodeDefinition(t *testing.T, b []byte) bool {
	t.Helper()
	m, ok := refDecode(b)
	if !ok {
		checkDecodeError(t, b)
		return false
	}
	checkDecode(t, b, m)
	return true
}

// TestDecodeExamples: promise MT2, encodings that are written out.
func TestDecodeExamples(t *testing.T) {
	for _, e := range examples() {
		checkDecode(t, []byte(e.encoding), e.m)
		if !checkDecodeDefinition(t, []byte(e.encoding)) {
			t.Errorf("by the definition, %x is no encoding", e.encoding)
		}
	}
}

// TestDecodeCut: promise MT2, encodings that are cut short anywhere, or followed by more bytes.
func TestDecodeCut(t *testing.T) {
	for _, e := range append(examples(), example{m: sample()}) {
		b := refFields(e.m)
		for size := range b {
			checkDecodeError(t, b[:size])
			checkDecodeError(t, slices.Clone(b[:size]))
		}
		for _, behind := range []string{"\x00", "\x01", "\x7f", "\x80", "\x00\x00\x00", string(b)} {
			checkDecodeError(t, append(slices.Clone(b), behind...))
		}
	}
	checkDecodeError(t, nil)
	checkDecodeError(t, []byte{})
}

// TestDecodeForms: promise MT2, bytes that are nearly an encoding, and the encodings that they are near to.
func TestDecodeForms(t *testing.T) {
	for _, e := range []struct {
		name, b string
		want    bool
	}{
		{"nothing", "\x00\x00\x00", true},
		{"longer number of bytes", "\x80\x00\x00\x00", false},
		{"longer number of literals", "\x00\x80\x00\x00", false},
		{"longer number of parts", "\x00\x00\x80\x00", false},
		{"negative number of bytes", "\x7f\x00\x00", false},
		{"negative number of literals", "\x00\x7f\x00", false},
		{"negative number of parts", "\x00\x00\x7f", false},
		{"literal", "\x00\x01\x02\x01a\x00", true},
		{"longer kind", "\x00\x01\x82\x00\x01a\x00", false},
		{"kind 3", "\x00\x01\x03\x01a\x00", false},
		{"kind -1", "\x00\x01\x7f\x01a\x00", false},
		{"kind 256", "\x00\x01\x80\x02\x01a\x00", false},
		{"kind 258", "\x00\x01\x82\x02\x01a\x00", false},
		{"text of -1 bytes", "\x00\x01\x02\x7f\x00", false},
		{"two literals, one there", "\x00\x02\x02\x01a\x00", false},
		{"one literal, two there", "\x00\x01\x02\x01a\x02\x01a\x00", false},
		{"part", "\x00\x00\x01\x7f\x10\x10\x01\x00", true},
		{"longer Outer", "\x00\x00\x01\xff\x7f\x10\x10\x01\x00", false},
		{"Outer -2", "\x00\x00\x01\x7e\x10\x10\x01\x00", false},
		{"Outer 63", "\x00\x00\x01\x3f\x10\x10\x01\x00", true},
		{"Outer 64", "\x00\x00\x01\xc0\x00\x10\x10\x01\x00", false},
		{"Args 17", "\x00\x00\x01\x7f\x11\x10\x01\x00", false},
		{"Args -1", "\x00\x00\x01\x7f\x7f\x10\x01\x00", false},
		{"Temps 17", "\x00\x00\x01\x7f\x10\x11\x01\x00", false},
		{"Temps -1", "\x00\x00\x01\x7f\x10\x7f\x01\x00", false},
		{"code of -1 bytes", "\x00\x00\x01\x7f\x10\x10\x7f", false},
		{"longer number of bytes of code", "\x00\x00\x01\x7f\x10\x10\x81\x00\x00", false},
		{"more bytes of code than there are", "\x00\x00\x01\x7f\x10\x10\x02\x00", false},
		{"fewer bytes of code than there are", "\x00\x00\x01\x7f\x10\x10\x00\x00", false},
		{"two parts, one there", "\x00\x00\x02\x7f\x10\x10\x01\x00", false},
		{"one part, two there", "\x00\x00\x01\x7f\x10\x10\x00\x7f\x10\x10\x00", false},
	} {
		if got := checkDecodeDefinition(t, []byte(e.b)); got != e.want {
			t.Errorf("%s: %x is an encoding by the definition: %t", e.name, e.b, got)
		}
	}
}

// TestDecodeCounts: promise MT2, numbers of bytes, literals and parts that are wrong, huge ones among them,
// whatever follows.
func TestDecodeCounts(t *testing.T) {
	numbers := append(edges(), 512, 513, 1023, 1024, 1025, 1<<20, 1<<31, 1<<40, 1<<62)
	for _, n := range numbers {
		for _, rest := range []string{"", "\x00", "\x00\x00", "\x00\x00\x00", strings.Repeat("\x00", 130),
			strings.Repeat("\x00", 260), strings.Repeat("\x00", 1026), strings.Repeat("\x00", 2000),
			strings.Repeat("\x01", 2000)} {
			for _, before := range []string{"", "\x00", "\x00\x00", "\x00\x01\x00", "\x00\x00\x01\x00\x00\x00"} {
				checkDecodeDefinition(t, append(varint.Put([]byte(before), n), rest...))
			}
		}
	}
	checkDecodeError(t, varint.Put(nil, math.MaxInt))
}

// TestDecodeShort: promise MT2, all sequences of up to seven of a few bytes, and all of up to two bytes.
func TestDecodeShort(t *testing.T) {
	count := 0
	sequences := [][]byte{nil}
	for i := 0; len(sequences[i]) < 7; i++ {
		for _, c := range []byte{0, 1, 2, 3, 0x7f, 0x80} {
			sequences = append(sequences, append(slices.Clone(sequences[i]), c))
		}
	}
	for _, b := range sequences {
		if checkDecodeDefinition(t, b) {
			count++
		}
	}
	if count < 500 {
		t.Errorf("only %d sequences are encodings", count)
	}
	for c := range 256 {
		checkDecodeError(t, []byte{byte(c)})
		for d := range 256 {
			checkDecodeError(t, []byte{byte(c), byte(d)})
		}
	}
}

// TestDecodeBytes: promise MT2, each byte of some encodings changed to each other one.
func TestDecodeBytes(t *testing.T) {
	counts := [2]int{}
	for _, e := range append(examples()[:7], example{m: sample()}) {
		b := refFields(e.m)
		for i, was := range b {
			for c := range 256 {
				b[i] = byte(c)
				counts = added(counts, checkDecodeDefinition(t, b))
			}
			b[i] = was
		}
	}
	if counts[0] < 10000 || counts[1] < 10000 {
		t.Errorf("other bytes and encodings: %d", counts)
	}
}

// TestDecodeDamaged: promise MT2, encodings of fixed random methods of which bytes are changed, left out or
// added, against the definition. Promises MT3 and P5: bytes that are decoded are the only encoding of their
// method.
func TestDecodeDamaged(t *testing.T) {
	source := rand.New(rand.NewPCG(9, 6))
	counts := [2]int{}
	for range 60000 {
		b := refFields(randomFields(source))
		for range 1 + source.IntN(2) {
			b = damagedCode(source, b)
		}
		ok := checkDecodeDefinition(t, b)
		counts = added(counts, ok)
		if ok {
			m, _ := method.Decode(b)
			checkEncode(t, m, b)
		}
	}
	if counts[0] < 10000 || counts[1] < 10000 {
		t.Errorf("other bytes and encodings: %d", counts)
	}
}

// TestInverse: promises MT3 and P5, a method that is encoded is decoded to an equal one, and its encoding is the
// same again.
func TestInverse(t *testing.T) {
	source := rand.New(rand.NewPCG(9, 7))
	count := 0
	for n := range 20000 {
		m := random(source)
		if n%2 == 0 {
			m = randomFields(source)
		}
		b, err := method.Encode(m)
		if err != nil {
			continue
		}
		count++
		back, err := method.Decode(b)
		if err != nil || !method.Same(back, m) || !refSame(back, m) {
			t.Fatalf("%v is decoded to %v, %v", m, back, err)
		}
		checkEncode(t, back, b)
	}
	if count < 15000 {
		t.Errorf("only %d methods are encodable", count)
	}
}
