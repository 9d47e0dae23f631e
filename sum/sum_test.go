package sum_test

import (
	"bytes"
	"math/rand/v2"
	"slices"
	"testing"

	"colloquy/api"
	"colloquy/sum"
)

func checkOf(t *testing.T, want uint32, pieces ...[]byte) {
	t.Helper()
	if s := sum.Of(pieces...); s != want {
		b := bytes.Join(pieces, nil)
		t.Fatalf("Of %d pieces of %d bytes in all, %x, is %08x, want %08x", len(pieces), len(b), b[:min(len(b), 20)], s, want)
	}
}

func checkOpen(t *testing.T, b, want []byte) {
	t.Helper()
	body, err := sum.Open(b)
	if !bytes.Equal(body, want) || err != nil {
		t.Fatalf("Open(%x), of %d bytes, is %d bytes, %v, want %d bytes", b[:min(len(b), 20)], len(b), len(body), err, len(want))
	}
}

func checkOpenError(t *testing.T, b []byte, want api.Errno) {
	t.Helper()
	body, err := sum.Open(b)
	if len(body) != 0 || errno(t, err) != want {
		t.Fatalf("Open(%x), of %d bytes, is %d bytes, %v, want error %d", b[:min(len(b), 20)], len(b), len(body), err, want)
	}
}

// TestExamples: promise SU1, the chapter's example and others that are computed by hand.
func TestExamples(t *testing.T) {
	for _, e := range []struct {
		text string
		want uint32
	}{
		{"", 1},
		{"\x00", 0x00010001},
		{"\x01", 0x00020002},
		{"\xff", 0x01000100},
		{"\x00\x00", 0x00020001},
		{"\x01\x02", 0x00060004},
		{"\x02\x01", 0x00070004},
		{"a", 0x00620062},
		{"abc", 0x024d0127},
		{"Wikipedia", 0x11e60398},
	} {
		checkOf(t, e.want, []byte(e.text))
		sealed := refSeal([]byte(e.text), e.want)
		if got := sum.Seal([]byte(e.text)); !bytes.Equal(got, sealed) {
			t.Errorf("Seal(%q) is %x, want %x", e.text, got, sealed)
		}
		checkOpen(t, sealed, []byte(e.text))
	}
}

// TestModulus: promise SU1, sums that reach the modulus, computed by hand.
func TestModulus(t *testing.T) {
	checkOf(t, 65520<<16|1, make([]byte, 65520))
	checkOf(t, 1, make([]byte, 65521))
	checkOf(t, 1<<16|1, make([]byte, 65522))
	checkOf(t, 1, make([]byte, 2*65521))
	// 65,519 bytes of 1: a takes the values 2 to 65,520, whose sum, 65,519 * 65,522 / 2, is one less
	// than a multiple of the modulus; two more bytes make each of a and b a multiple in turn.
	ones := bytes.Repeat([]byte{1}, 65521)
	checkOf(t, 65520<<16|65520, ones[:65519])
	checkOf(t, 65520<<16, ones[:65520])
	checkOf(t, 1, ones)
	if s := sum.Of(withSum(65519)); s&0xffff != 65520 {
		t.Errorf("a is %d, want 65520", s&0xffff)
	}
	if s := sum.Of(withSum(65520)); s&0xffff != 0 {
		t.Errorf("a is %d, want 0", s&0xffff)
	}
	if s := sum.Of(withSum(65521)); s&0xffff != 1 {
		t.Errorf("a is %d, want 1", s&0xffff)
	}
}

// TestNoBytes: promises SU1 and SU2, no pieces, and pieces of no bytes.
func TestNoBytes(t *testing.T) {
	checkOf(t, 1)
	checkOf(t, 1, nil)
	checkOf(t, 1, []byte{})
	checkOf(t, 1, nil, []byte{}, nil)
	checkOf(t, 1, make([][]byte, 1000)...)
	checkOf(t, 1, [][]byte(nil)...)
	checkOf(t, 0x00620062, nil, []byte("a"), []byte{}, nil)
}

// TestDefinition: promise SU1, Of, Seal and Open against the definition.
func TestDefinition(t *testing.T) {
	for _, b := range sequences() {
		want := refSum(b)
		checkOf(t, want, b)
		sealed := refSeal(b, want)
		if got := sum.Seal(b); !bytes.Equal(got, sealed) {
			t.Fatalf("Seal of %d bytes is %d bytes, of them %x at the end, want %08x", len(b), len(got), got[max(0, len(got)-4):], want)
		}
		checkOpen(t, sealed, b)
	}
}

// TestShort: promise SU1, all sequences of two bytes against the definition.
func TestShort(t *testing.T) {
	for c := range 256 {
		for d := range 256 {
			b := []byte{byte(c), byte(d)}
			checkOf(t, refSum(b), b)
			checkOpen(t, sum.Seal(b), b)
		}
	}
}

// TestLong: promise SU1, a million bytes of 255, and of some others, against the definition.
func TestLong(t *testing.T) {
	for _, c := range []byte{0, 1, 254, 255} {
		b := bytes.Repeat([]byte{c}, 1_000_000)
		checkOf(t, refSum(b), b)
		checkOpen(t, refSeal(b, refSum(b)), b)
	}
	b := random(rand.New(rand.NewPCG(5, 2)), 1_000_000)
	checkOf(t, refSum(b), b)
	checkOpen(t, refSeal(b, refSum(b)), b)
}

// TestTwoPieces: promise SU2, bytes divided into two pieces, and with pieces of no bytes, at every place.
func TestTwoPieces(t *testing.T) {
	for _, b := range sequences() {
		if len(b) > 300 {
			continue
		}
		for i := range len(b) + 1 {
			checkOf(t, refSum(b), b[:i], b[i:])
			checkOf(t, refSum(b), nil, b[:i], []byte{}, b[i:], nil)
		}
	}
}

// TestThreePieces: promise SU2, bytes divided at every two places, also where the sums pass the modulus.
func TestThreePieces(t *testing.T) {
	list := [][]byte{[]byte("Wikipedia"), withSum(100), bytes.Repeat([]byte{255}, 260), withSum(65521)}
	for _, b := range list {
		want := refSum(b)
		for i := max(0, len(b)-40); i <= len(b); i++ {
			for j := i; j <= len(b); j++ {
				checkOf(t, want, b[:i], b[i:j], b[j:])
			}
		}
	}
}

// TestManyPieces: promise SU2, one piece a byte, and random pieces.
func TestManyPieces(t *testing.T) {
	source := rand.New(rand.NewPCG(5, 3))
	for _, b := range sequences() {
		var single, any [][]byte
		for i := range b {
			single = append(single, b[i:i+1])
		}
		for rest := b; len(rest) > 0; {
			size := source.IntN(min(len(rest), 1000) + 1)
			any = append(any, rest[:size])
			rest = rest[size:]
		}
		checkOf(t, refSum(b), single...)
		checkOf(t, refSum(b), any...)
	}
}

// TestOrder: promise SU1, the concatenation has the order of the pieces.
func TestOrder(t *testing.T) {
	first, second := []byte("Wiki"), []byte("pedia")
	checkOf(t, 0x11e60398, first, second)
	checkOf(t, refSum([]byte("pediaWiki")), second, first)
	if sum.Of(first, second) == sum.Of(second, first) {
		t.Errorf("the order of the pieces has no effect")
	}
	checkOf(t, refSum([]byte("WikiWiki")), first, first)
}

// TestChange: promise SU2, any change of a single byte changes the checksum.
func TestChange(t *testing.T) {
	for _, b := range sequences() {
		was := sum.Of(b)
		changed := slices.Clone(b)
		// All places of a short sequence, some of a long one.
		for i := 0; i < len(b); i += 1 + len(b)/50 {
			for step := 1; step < 256; step += 1 + len(b)/50 {
				changed[i] = b[i] + byte(step)
				if sum.Of(changed) == was {
					t.Fatalf("%x of %d bytes: byte %d changed to %d has no effect", b[:min(len(b), 20)], len(b), i, changed[i])
				}
			}
			changed[i] = b[i]
		}
	}
}

// TestOpenChanged: promises SU1 and SU2, sealed bytes of which a single one has changed.
func TestOpenChanged(t *testing.T) {
	for _, b := range sequences() {
		if len(b) > 300 {
			continue
		}
		sealed := sum.Seal(b)
		for i := range sealed {
			was := sealed[i]
			for _, step := range []byte{1, 2, 15, 16, 127, 128, 240, 254, 255} {
				sealed[i] = was + step
				checkOpenError(t, sealed, api.ErrSum)
			}
			sealed[i] = was
		}
		checkOpen(t, sealed, b)
	}
}

// TestOpenChangedLong: promises SU1 and SU2, as TestOpenChanged, for long sequences, at every byte
// of the checksum and some others.
func TestOpenChangedLong(t *testing.T) {
	for _, b := range sequences() {
		if len(b) <= 300 {
			continue
		}
		sealed := sum.Seal(b)
		for _, i := range []int{0, 1, len(b) / 2, len(b) - 1, len(b), len(b) + 1, len(b) + 2, len(b) + 3} {
			sealed[i] ^= 1
			checkOpenError(t, sealed, api.ErrSum)
			sealed[i] ^= 0x81
			checkOpenError(t, sealed, api.ErrSum)
			sealed[i] ^= 0x80
		}
		checkOpen(t, sealed, b)
	}
}

// TestOpenTooShort: promise SU1, fewer than four bytes, whatever stands behind the slice.
func TestOpenTooShort(t *testing.T) {
	checkOpenError(t, nil, api.ErrForm)
	sealed := []byte{0, 0, 0, 1, 0, 0, 0, 1}
	for size := range 4 {
		checkOpenError(t, sealed[:size], api.ErrForm)
		checkOpenError(t, slices.Clone(sealed[:size]), api.ErrForm)
		checkOpenError(t, sealed[4-size:4], api.ErrForm)
		checkOpenError(t, bytes.Repeat([]byte{255}, size), api.ErrForm)
	}
}

// TestOpenFour: promise SU1, four bytes are a checksum of no bytes.
func TestOpenFour(t *testing.T) {
	checkOpen(t, []byte{0, 0, 0, 1}, nil)
	checkOpenError(t, []byte{0, 0, 0, 0}, api.ErrSum)
	checkOpenError(t, []byte{1, 0, 0, 0}, api.ErrSum)
	checkOpenError(t, []byte{0, 1, 0, 0}, api.ErrSum)
	checkOpenError(t, []byte{0, 1, 0, 1}, api.ErrSum)
	checkOpenError(t, []byte{255, 255, 255, 255}, api.ErrSum)
	for i := range 4 {
		for c := range 256 {
			b := []byte{0, 0, 0, 1}
			if b[i] != byte(c) {
				b[i] = byte(c)
				checkOpenError(t, b, api.ErrSum)
			}
		}
	}
}

// TestOpenCut: promise SU1, sealed bytes with some missing or too many at either end.
func TestOpenCut(t *testing.T) {
	sealed := sum.Seal([]byte("Wikipedia"))
	for size := range len(sealed) {
		want := api.ErrSum
		if size < 4 {
			want = api.ErrForm
		}
		checkOpenError(t, sealed[:size], want)
	}
	for start := 1; start <= len(sealed)-4; start++ {
		checkOpenError(t, sealed[start:], api.ErrSum)
	}
	for c := range 256 {
		checkOpenError(t, append(slices.Clone(sealed), byte(c)), api.ErrSum)
		checkOpenError(t, append([]byte{byte(c)}, sealed...), api.ErrSum)
	}
}

// TestOpenNotReduced: promise SU1, a checksum whose a or b is 65,521 more than it should be, which has
// the same remainder, and one whose bytes or halves are in another order.
func TestOpenNotReduced(t *testing.T) {
	for _, b := range [][]byte{nil, {}, {0}, {1}, {2, 3}, {13}, {0, 0, 0}, withSum(65521), make([]byte, 65521)} {
		n := refSum(b)
		if n%65536 < 15 {
			checkOpenError(t, refSeal(b, n+modulus), api.ErrSum)
		}
		if n/65536 < 15 {
			checkOpenError(t, refSeal(b, n+modulus*65536), api.ErrSum)
		}
		checkOpen(t, refSeal(b, n), b)
	}
	b := []byte("Wikipedia")
	checkOpenError(t, refSeal(b, 0x9803e611), api.ErrSum)
	checkOpenError(t, refSeal(b, 0x039811e6), api.ErrSum)
	checkOpenError(t, refSeal(b, 0xe6119803), api.ErrSum)
	checkOpenError(t, append([]byte{0x11, 0xe6, 0x03, 0x98}, b...), api.ErrSum)
}

// TestSealTwice: promise SU1, sealed bytes can be sealed and opened again.
func TestSealTwice(t *testing.T) {
	for _, b := range sequences() {
		once := sum.Seal(b)
		checkOpen(t, sum.Seal(once), once)
	}
}

// TestOpenRandom: promise SU1, random bytes are opened if and only if they end with the checksum.
func TestOpenRandom(t *testing.T) {
	source := rand.New(rand.NewPCG(5, 4))
	for range 50000 {
		b := random(source, source.IntN(12))
		switch body := b[:max(0, len(b)-4)]; {
		case len(b) < 4:
			checkOpenError(t, b, api.ErrForm)
		case bytes.Equal(refSeal(body, refSum(body)), b):
			checkOpen(t, b, body)
		default:
			checkOpenError(t, b, api.ErrSum)
		}
	}
}
