package method_test

import (
	"math/rand/v2"
	"strings"
	"testing"

	"colloquy/method"
)

// alphabet holds bytes of all forms of selectors, their neighbours, and others.
const alphabet = "azAZ09+-*/\\<>=~,:`{@[.;!&|^%?_ \t\n\x00\x7f\x80\xc3\xa9\xff"

func checkArity(t *testing.T, sel string, want int, wantOK bool) {
	t.Helper()
	if n, ok := method.Arity(sel); n != want || ok != wantOK {
		t.Fatalf("Arity(%q) is %d, %t, want %d, %t", sel, n, ok, want, wantOK)
	}
}

// checkArityDefinition compares Arity to the definition.
func checkArityDefinition(t *testing.T, sel string) {
	t.Helper()
	n, ok := refArity(sel)
	checkArity(t, sel, n, ok)
}

// TestArity: promise MT1 and the example of the chapter, selectors of all forms.
func TestArity(t *testing.T) {
	for _, e := range []struct {
		sel  string
		args int
	}{
		{"at:put:", 2},
		{"foo", 0},
		{"a", 0},
		{"fooBar12", 0},
		{"nil", 0},
		{"+", 1},
		{"<=", 1},
		{"at:", 1},
		{"z9Z:z9Z:", 2},
		{"a:a:a:", 3},
		{"a:b:c:d:", 4},
		{"a:b:c:d:e:", 5},
		{"a:b:c:d:e:f:", 6},
		{"a:b:c:d:e:f:g:", 7},
		{"a:b:c:d:e:f:g:h:", 8},
	} {
		checkArity(t, e.sel, e.args, true)
	}
}

// TestArityLists: promise MT1, selectors and texts that are none.
func TestArityLists(t *testing.T) {
	for _, sel := range selectors() {
		checkArityDefinition(t, sel)
		if _, ok := method.Arity(sel); !ok {
			t.Errorf("%q is no selector", sel)
		}
	}
	for _, sel := range notSelectors() {
		checkArityDefinition(t, sel)
		checkArity(t, sel, 0, false)
	}
}

// TestArityShort: promise MT1, all texts of one and two bytes, and those of three to five of a choice.
func TestArityShort(t *testing.T) {
	checkArity(t, "", 0, false)
	count := 0
	for c := range 256 {
		checkArityDefinition(t, string([]byte{byte(c)}))
		for d := range 256 {
			sel := string([]byte{byte(c), byte(d)})
			checkArityDefinition(t, sel)
			if _, ok := method.Arity(sel); ok {
				count++
			}
		}
	}
	if want := 10*10 + 26*62 + 26; count != want {
		t.Errorf("%d selectors of two bytes, want %d", count, want)
	}
	texts := []string{""}
	for i := 0; len(texts[i]) < 5; i++ {
		for _, c := range []string{"a", "B", "9", "+", "<", ":", " "} {
			texts = append(texts, texts[i]+c)
		}
	}
	for _, sel := range texts {
		checkArityDefinition(t, sel)
	}
}

// TestArityBytes: promise MT1, each byte at each place of some selectors, instead of a byte or in front of it.
func TestArityBytes(t *testing.T) {
	for _, sel := range selectors() {
		for i := range len(sel) + 1 {
			for c := range 256 {
				checkArityDefinition(t, sel[:i]+string([]byte{byte(c)})+sel[i:])
				if i < len(sel) {
					checkArityDefinition(t, sel[:i]+string([]byte{byte(c)})+sel[i+1:])
				}
			}
		}
	}
}

// TestArityLong: promise MT1, names, binary selectors and keywords of all lengths up to 70, and much longer
// ones.
func TestArityLong(t *testing.T) {
	for n := 1; n <= 70; n++ {
		checkArity(t, strings.Repeat("n", n), 0, n <= 64)
		checkArityDefinition(t, strings.Repeat("+", n))
		one := 0
		if n+1 <= 64 {
			one = 1
		}
		checkArity(t, strings.Repeat("k", n)+":", one, n+1 <= 64)
		checkArityDefinition(t, strings.Repeat("a:", n))
		for many := 1; many < 8; many++ {
			checkArityDefinition(t, strings.Repeat("a:", many)+strings.Repeat("b", n)+":")
		}
	}
	for _, n := range []int{1 << 8, 1 << 16, 1 << 20} {
		for _, s := range []string{"a", "a:", "+", ":", "A", "\xff"} {
			checkArity(t, strings.Repeat(s, n), 0, false)
		}
	}
}

// TestArityRandom: promise MT1, fixed random texts of names, colons and other bytes, against the definition.
func TestArityRandom(t *testing.T) {
	source := rand.New(rand.NewPCG(9, 1))
	pieces := []string{"a", "b:", "foo:", "barBaz9:", "x1", ":", "Z", "7", "+", "~", strings.Repeat("long", 4)}
	counts := map[bool]int{}
	for range 200000 {
		var sel strings.Builder
		for range source.IntN(12) {
			if source.IntN(20) == 0 {
				sel.WriteByte(alphabet[source.IntN(len(alphabet))])
				continue
			}
			sel.WriteString(pieces[source.IntN(1+source.IntN(len(pieces)))])
		}
		checkArityDefinition(t, sel.String())
		_, ok := method.Arity(sel.String())
		counts[ok]++
	}
	if counts[true] < 20000 || counts[false] < 20000 {
		t.Errorf("selectors and others: %v", counts)
	}
}
