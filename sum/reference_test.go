package sum_test

import (
	"bytes"
	"errors"
	"math/rand/v2"
	"testing"

	"colloquy/api"
)

const modulus = 65521

// errno returns the number of an error, or 0 if there is none.
func errno(t *testing.T, err error) api.Errno {
	t.Helper()
	var n api.Errno
	if err != nil && !errors.As(err, &n) {
		t.Fatalf("error %v has no number", err)
	}
	return n
}

// refSum is the definition of chapter 5, without a remainder before the end: the sums of a million
// bytes have less than 64 bits.
func refSum(b []byte) uint32 {
	one, all := uint64(1), uint64(0)
	for _, c := range b {
		one += uint64(c)
		all += one
	}
	return uint32(all%modulus*65536 + one%modulus)
}

// refSeal returns b followed by four bytes of n, the most significant one first.
func refSeal(b []byte, n uint32) []byte {
	sealed := make([]byte, len(b)+4)
	copy(sealed, b)
	for i := len(b) + 3; i >= len(b); i-- {
		sealed[i] = byte(n % 256)
		n /= 256
	}
	return sealed
}

// withSum returns bytes whose sum is n, as few of them as possible.
func withSum(n int) []byte {
	return append(bytes.Repeat([]byte{255}, n/255), byte(n%255))
}

// random returns so many bytes, which are the same for the same source each time.
func random(source *rand.Rand, size int) []byte {
	b := make([]byte, size)
	for i := range b {
		b[i] = byte(source.Uint32())
	}
	return b
}

// sequences returns short and long sequences of bytes: no byte, all single bytes, bytes whose sums are
// at and around the multiples of 65,521, many bytes of 0, 1 and 255, and random ones.
func sequences() [][]byte {
	list := [][]byte{
		nil,
		{},
		[]byte("Wikipedia"),
		{0, 0, 0, 1},
		{255, 255, 255, 255},
		bytes.Repeat([]byte("colloquy"), 30),
	}
	for c := range 256 {
		list = append(list, []byte{byte(c)})
	}
	for multiple := modulus; multiple <= 5*modulus; multiple += modulus {
		for step := -3; step <= 3; step++ {
			list = append(list, withSum(multiple+step))
		}
	}
	for _, size := range []int{256, 257, 258, 5551, 5552, 5553, 5554, 11104, 65519, 65520, 65521, 65522, 65536} {
		for _, c := range []byte{0, 1, 255} {
			list = append(list, bytes.Repeat([]byte{c}, size))
		}
	}
	source := rand.New(rand.NewPCG(5, 1))
	for size := range 200 {
		list = append(list, random(source, size))
	}
	return append(list, random(source, 6000), random(source, 70000))
}
