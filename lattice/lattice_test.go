package lattice_test

import (
	"errors"
	"math"
	"slices"
	"testing"

	"colloquy/api"
	"colloquy/lattice"
)

// errno returns the number of an error, or 0 if there is none.
func errno(t *testing.T, err error) api.Errno {
	t.Helper()
	if err == nil {
		return 0
	}
	var n api.Errno
	if !errors.As(err, &n) {
		t.Fatalf("error %v has no number", err)
	}
	return n
}

func lat(up ...uint8) lattice.Lat {
	return lattice.Lat{Up: up}
}

type example struct {
	name string
	l    lattice.Lat
}

func validLats() []example {
	return []example{
		{"one level", lat(1)},
		{"two levels", lat(0b11, 0b10)},
		{"two levels, the top first", lat(0b01, 0b11)},
		{"square", lat(0b1111, 0b1010, 0b1100, 0b1000)},
		{"square, the bottom in the middle", lat(0b0011, 0b0010, 0b1111, 0b1010)},
		{"three levels side by side", lat(0b11111, 0b10010, 0b10100, 0b11000, 0b10000)},
		{"pentagon", lat(0b11111, 0b10110, 0b10100, 0b11000, 0b10000)},
		{"chain of 8 levels", lat(0xff, 0xfe, 0xfc, 0xf8, 0xf0, 0xe0, 0xc0, 0x80)},
		{"chain of 8 levels, downward", lat(0x01, 0x03, 0x07, 0x0f, 0x1f, 0x3f, 0x7f, 0xff)},
		{"cube", lat(0xff, 0xaa, 0xcc, 0x88, 0xf0, 0xa0, 0xc0, 0x80)},
	}
}

func invalidLats() []example {
	return []example{
		{"no level", lat()},
		{"nil", lattice.Lat{}},
		{"9 levels", lat(0xff, 0xfe, 0xfc, 0xf8, 0xf0, 0xe0, 0xc0, 0x80, 0x80)},
		{"9 levels that are equal", lat(1, 1, 1, 1, 1, 1, 1, 1, 1)},
		{"a great number of levels", lattice.Lat{Up: make([]uint8, 1<<20)}},
		{"a bit that is no level's", lat(0b11)},
		{"the highest bit is no level's", lat(0b11, 0b10000010)},
		{"a bit of the eighth level, of seven", lat(0xff, 0x7e, 0x7c, 0x78, 0x70, 0x60, 0x40)},
		{"not at or below itself", lat(0)},
		{"the second level not at or below itself", lat(0b11, 0)},
		{"two levels at or below each other", lat(0b11, 0b11)},
		{"two of three levels at or below each other", lat(0b111, 0b110, 0b110)},
		{"three levels in a circle", lat(0b011, 0b110, 0b101)},
		{"not transitive", lat(0b011, 0b110, 0b100)},
		{"not transitive, but bounded", lat(0b11111, 0b10110, 0b11100, 0b11000, 0b10000)},
		{"not comparable", lat(0b01, 0b10)},
		{"no join", lat(0b111, 0b010, 0b100)},
		{"no meet", lat(0b101, 0b110, 0b100)},
		{"two least upper levels", lat(0b111111, 0b111010, 0b111100, 0b101000, 0b110000, 0b100000)},
		{"neither join nor meet at the ends", lat(0b1101, 0b1110, 0b0100, 0b1000)},
	}
}

// TestCheck: promise LA1, Check.
func TestCheck(t *testing.T) {
	for _, e := range validLats() {
		if n := errno(t, lattice.Check(e.l)); n != 0 {
			t.Errorf("%s: error %d", e.name, n)
		}
	}
	for _, e := range invalidLats() {
		if n := errno(t, lattice.Check(e.l)); n != api.ErrLattice {
			t.Errorf("%s: error %d, want %d", e.name, n, api.ErrLattice)
		}
	}
}

// TestCheckCounts: promise LA1, Check accepts as many Lats as there are lattices of numbered elements.
func TestCheckCounts(t *testing.T) {
	for n, want := range map[int]int{1: 1, 2: 2, 3: 6, 4: 36, 5: 380} {
		count := 0
		everyUp(n, 1<<n, true, func(up []uint8) {
			if lattice.Check(lattice.Lat{Up: up}) == nil {
				count++
			}
		})
		if count != want {
			t.Errorf("%d lattices of %d levels, want %d", count, n, want)
		}
	}
}

// TestDefinition: promises LA1 and LA2, against the definitions, for all Lats of up to 2 levels, and all
// of 3 and 4 levels with no bit above bit 3.
func TestDefinition(t *testing.T) {
	for _, c := range []struct{ n, limit int }{{0, 1}, {1, 256}, {2, 256}, {3, 16}, {4, 16}} {
		everyUp(c.n, c.limit, false, func(up []uint8) { checkDefinition(t, up) })
	}
}

// TestDefinitionUpTo8: promises LA1 and LA2, against the definitions, for Lats of 5 to 8 levels with
// their levels in several orders.
func TestDefinitionUpTo8(t *testing.T) {
	for n := 5; n <= 8; n++ {
		everyBounded(n, func(up []uint8) {
			checkDefinition(t, up)
			checkDefinition(t, renumber(up, turned(n)))
			checkDefinition(t, renumber(up, rotated(n)))
		})
	}
}

// turned returns the numbers of n levels, the highest first.
func turned(n int) []int {
	order := make([]int, n)
	for a := range order {
		order[a] = n - 1 - a
	}
	return order
}

// rotated returns the numbers of n levels, beginning with 3.
func rotated(n int) []int {
	order := make([]int, n)
	for a := range order {
		order[a] = (a + 3) % n
	}
	return order
}

func checkDefinition(t *testing.T, up []uint8) {
	t.Helper()
	l := lattice.Lat{Up: up}
	valid := refValid(up)
	if got := lattice.Check(l) == nil; got != valid {
		t.Fatalf("%v: valid %v, want %v", up, got, valid)
	}
	if !valid {
		checkInvalid(t, l)
		return
	}
	for a := range up {
		for b := range up {
			if got, want := l.Leq(a, b), refLeq(up, a, b); got != want {
				t.Fatalf("%v: Leq(%d, %d) is %v", up, a, b, got)
			}
			if got, want := l.Join(a, b), refJoin(up, a, b); !slices.Equal([]int{got}, want) {
				t.Fatalf("%v: Join(%d, %d) is %d, want %v", up, a, b, got, want)
			}
			if got, want := l.Meet(a, b), refMeet(up, a, b); !slices.Equal([]int{got}, want) {
				t.Fatalf("%v: Meet(%d, %d) is %d, want %v", up, a, b, got, want)
			}
			if !refLeq(up, l.Bottom(), a) || !refLeq(up, a, l.Top()) {
				t.Fatalf("%v: Bottom is %d, Top is %d", up, l.Bottom(), l.Top())
			}
		}
	}
}

// checkInvalid checks what a Lat that is not valid returns for levels that it has or seems to have.
func checkInvalid(t *testing.T, l lattice.Lat) {
	t.Helper()
	if l.Bottom() != 0 || l.Top() != 0 {
		t.Fatalf("%v: Bottom is %d, Top is %d", l.Up, l.Bottom(), l.Top())
	}
	for a := range 9 {
		for b := range 9 {
			if l.Leq(a, b) || l.Join(a, b) != 0 || l.Meet(a, b) != 0 {
				t.Fatalf("%v: Leq, Join, Meet of %d and %d are %v, %d, %d", l.Up, a, b, l.Leq(a, b), l.Join(a, b), l.Meet(a, b))
			}
		}
	}
}

// TestInvalid: promises LA1 and LA2, for Lats that are not valid.
func TestInvalid(t *testing.T) {
	for _, e := range invalidLats() {
		checkInvalid(t, e.l)
		for _, a := range noLevels(len(e.l.Up)) {
			if e.l.Leq(a, a) || e.l.Join(a, 0) != 0 || e.l.Meet(0, a) != 0 {
				t.Errorf("%s: level %d", e.name, a)
			}
		}
	}
}

// TestNoLevels: promises LA1 and LA2, for numbers that are not those of levels.
func TestNoLevels(t *testing.T) {
	for _, e := range validLats() {
		n := len(e.l.Up)
		for _, a := range noLevels(n) {
			if a >= 0 && a < n {
				continue
			}
			for _, b := range append(noLevels(n), 0, n-1) {
				if e.l.Leq(a, b) || e.l.Leq(b, a) {
					t.Errorf("%s: Leq of %d and %d", e.name, a, b)
				}
				if e.l.Join(a, b) != 0 || e.l.Join(b, a) != 0 {
					t.Errorf("%s: Join of %d and %d", e.name, a, b)
				}
				if e.l.Meet(a, b) != 0 || e.l.Meet(b, a) != 0 {
					t.Errorf("%s: Meet of %d and %d", e.name, a, b)
				}
			}
		}
	}
}

// TestLeq: promise LA1, Leq.
func TestLeq(t *testing.T) {
	l := lattice.Square()
	want := [4][4]bool{
		{true, true, true, true},
		{false, true, false, true},
		{false, false, true, true},
		{false, false, false, true},
	}
	for a := range 4 {
		for b := range 4 {
			if got := l.Leq(a, b); got != want[a][b] {
				t.Errorf("Leq(%d, %d) is %v", a, b, got)
			}
		}
	}
}

// TestSame: promise LA1, Same.
func TestSame(t *testing.T) {
	all := append(validLats(), invalidLats()[2:]...)
	for i, a := range all {
		for j, b := range all {
			if got := lattice.Same(a.l, b.l); got != (i == j) {
				t.Errorf("%s and %s: %v", a.name, b.name, got)
			}
		}
		if !lattice.Same(a.l, lattice.Lat{Up: slices.Clone(a.l.Up)}) {
			t.Errorf("%s and its copy are not the same", a.name)
		}
	}
	for _, c := range []struct {
		a, b lattice.Lat
		want bool
	}{
		{lat(), lattice.Lat{}, true},
		{lattice.Lat{}, lat(0), false},
		{lat(0), lat(0, 0), false},
		{lat(1), lat(1, 0), false},
		{lat(0b01), lat(0b11), false},
		{lat(0b00000011, 0b10), lat(0b10000011, 0b10), false},
		{lat(0b10000011, 0b10), lat(0b10000011, 0b10), true},
		{lat(1, 2), lat(2, 1), false},
	} {
		if got := lattice.Same(c.a, c.b); got != c.want {
			t.Errorf("%v and %v: %v", c.a.Up, c.b.Up, got)
		}
		if got := lattice.Same(c.b, c.a); got != c.want {
			t.Errorf("%v and %v: %v", c.b.Up, c.a.Up, got)
		}
	}
}

// TestJoinMeet: promise LA2 and the example of the chapter.
func TestJoinMeet(t *testing.T) {
	square := lattice.Square()
	cube := lat(0xff, 0xaa, 0xcc, 0x88, 0xf0, 0xa0, 0xc0, 0x80)
	pentagon := lat(0b11111, 0b10110, 0b10100, 0b11000, 0b10000)
	for _, c := range []struct {
		l                lattice.Lat
		a, b, join, meet int
	}{
		{square, 1, 2, 3, 0},
		{square, 0, 2, 2, 0},
		{square, 3, 1, 3, 1},
		{square, 1, 1, 1, 1},
		{cube, 3, 5, 7, 1},
		{cube, 1, 2, 3, 0},
		{cube, 6, 4, 6, 4},
		{pentagon, 1, 2, 2, 1},
		{pentagon, 3, 1, 4, 0},
		{pentagon, 2, 3, 4, 0},
	} {
		if got := c.l.Join(c.a, c.b); got != c.join {
			t.Errorf("%v: Join(%d, %d) is %d, want %d", c.l.Up, c.a, c.b, got, c.join)
		}
		if got := c.l.Meet(c.a, c.b); got != c.meet {
			t.Errorf("%v: Meet(%d, %d) is %d, want %d", c.l.Up, c.a, c.b, got, c.meet)
		}
	}
}

// TestBottomTop: promise LA2, Bottom and Top, wherever they are.
func TestBottomTop(t *testing.T) {
	for _, c := range []struct {
		l           lattice.Lat
		bottom, top int
	}{
		{lat(1), 0, 0},
		{lat(0b11, 0b10), 0, 1},
		{lat(0b01, 0b11), 1, 0},
		{lattice.Square(), 0, 3},
		{lat(0b0011, 0b0010, 0b1111, 0b1010), 2, 1},
		{lat(0x01, 0x03, 0x07, 0x0f, 0x1f, 0x3f, 0x7f, 0xff), 7, 0},
	} {
		if got := c.l.Bottom(); got != c.bottom {
			t.Errorf("%v: Bottom is %d, want %d", c.l.Up, got, c.bottom)
		}
		if got := c.l.Top(); got != c.top {
			t.Errorf("%v: Top is %d, want %d", c.l.Up, got, c.top)
		}
	}
}

// TestChain: promise LA3, Chain.
func TestChain(t *testing.T) {
	for n := 1; n <= 8; n++ {
		l, err := lattice.Chain(n)
		if err != nil || lattice.Check(l) != nil || len(l.Up) != n {
			t.Fatalf("Chain(%d) is %v, %v", n, l.Up, err)
		}
		for a := range n {
			for b := range n {
				if got := l.Leq(a, b); got != (a <= b) {
					t.Errorf("Chain(%d): Leq(%d, %d) is %v", n, a, b, got)
				}
			}
		}
	}
	for _, n := range []int{0, 9, -1, -8, 10, 64, 256, 257, 1 << 32, 1<<32 + 1, math.MinInt, math.MaxInt} {
		l, err := lattice.Chain(n)
		if errno(t, err) != api.ErrArg || len(l.Up) != 0 {
			t.Errorf("Chain(%d) is %v, %v", n, l.Up, err)
		}
	}
}

// TestSquare: promise LA3, Square.
func TestSquare(t *testing.T) {
	l := lattice.Square()
	if lattice.Check(l) != nil || len(l.Up) != 4 {
		t.Fatalf("Square is %v", l.Up)
	}
	if l.Bottom() != 0 || l.Top() != 3 || l.Leq(1, 2) || l.Leq(2, 1) {
		t.Errorf("Square is %v", l.Up)
	}
}

// TestLaws: promise LA4.
func TestLaws(t *testing.T) {
	checked := map[int]int{}
	laws := func(up []uint8) {
		l := lattice.Lat{Up: up}
		if lattice.Check(l) == nil {
			checked[len(up)]++
			checkLaws(t, l)
		}
	}
	for n := 1; n <= 4; n++ {
		everyUp(n, 1<<n, true, laws)
	}
	for n := 5; n <= 8; n++ {
		everyBounded(n, laws)
		everyBounded(n, func(up []uint8) { laws(renumber(up, turned(n))) })
	}
	for n := 1; n <= 8; n++ {
		if checked[n] == 0 {
			t.Errorf("no lattice of %d levels", n)
		}
	}
}

// table has all results for one Lat, so that each of them is computed once.
type table struct {
	up          []uint8
	bottom, top int
	leq         [8][8]bool
	join, meet  [8][8]int
}

func tabulate(l lattice.Lat) *table {
	r := &table{up: l.Up, bottom: l.Bottom(), top: l.Top()}
	for a := range l.Up {
		for b := range l.Up {
			r.leq[a][b] = l.Leq(a, b)
			r.join[a][b] = l.Join(a, b)
			r.meet[a][b] = l.Meet(a, b)
		}
	}
	return r
}

func checkLaws(t *testing.T, l lattice.Lat) {
	t.Helper()
	r := tabulate(l)
	for a := range r.up {
		checkLevel(t, r, a)
		for b := range r.up {
			checkPair(t, r, a, b)
			for c := range r.up {
				checkTriple(t, r, a, b, c)
			}
		}
	}
}

func checkLevel(t *testing.T, r *table, a int) {
	t.Helper()
	if r.join[a][a] != a || r.meet[a][a] != a || !r.leq[a][a] {
		t.Fatalf("%v: not idempotent at %d", r.up, a)
	}
	if r.join[a][r.bottom] != a || r.meet[a][r.top] != a || r.join[a][r.top] != r.top || r.meet[a][r.bottom] != r.bottom {
		t.Fatalf("%v: bounds at %d", r.up, a)
	}
	if !r.leq[r.bottom][a] || !r.leq[a][r.top] {
		t.Fatalf("%v: %d is not between the bounds", r.up, a)
	}
}

func checkPair(t *testing.T, r *table, a, b int) {
	t.Helper()
	join, meet := r.join[a][b], r.meet[a][b]
	if join != r.join[b][a] || meet != r.meet[b][a] {
		t.Fatalf("%v: not commutative at %d, %d", r.up, a, b)
	}
	if r.join[a][meet] != a || r.meet[a][join] != a {
		t.Fatalf("%v: no absorption at %d, %d", r.up, a, b)
	}
	if r.leq[a][b] != (join == b) || r.leq[a][b] != (meet == a) {
		t.Fatalf("%v: Leq, Join and Meet differ at %d, %d", r.up, a, b)
	}
	if a != b && r.leq[a][b] && r.leq[b][a] {
		t.Fatalf("%v: not antisymmetric at %d, %d", r.up, a, b)
	}
}

func checkTriple(t *testing.T, r *table, a, b, c int) {
	t.Helper()
	if r.join[r.join[a][b]][c] != r.join[a][r.join[b][c]] || r.meet[r.meet[a][b]][c] != r.meet[a][r.meet[b][c]] {
		t.Fatalf("%v: not associative at %d, %d, %d", r.up, a, b, c)
	}
	if r.leq[a][b] && r.leq[b][c] && !r.leq[a][c] {
		t.Fatalf("%v: not transitive at %d, %d, %d", r.up, a, b, c)
	}
	if (r.leq[a][c] && r.leq[b][c]) != r.leq[r.join[a][b]][c] {
		t.Fatalf("%v: the join of %d and %d is not the least, see %d", r.up, a, b, c)
	}
	if (r.leq[c][a] && r.leq[c][b]) != r.leq[c][r.meet[a][b]] {
		t.Fatalf("%v: the meet of %d and %d is not the greatest, see %d", r.up, a, b, c)
	}
}

// TestNewResults: promise P8, the results of two calls share no memory, spare capacity included.
func TestNewResults(t *testing.T) {
	chain := func() lattice.Lat {
		l, _ := lattice.Chain(5)
		return l
	}
	for _, build := range []func() lattice.Lat{lattice.Square, chain} {
		first, second := build(), build()
		want := slices.Clone(second.Up)
		whole := first.Up[:cap(first.Up)]
		for i := range whole {
			whole[i] ^= 0xff
		}
		if !slices.Equal(second.Up, want) || !slices.Equal(build().Up, want) {
			t.Errorf("%v became %v, a new one is %v", want, second.Up, build().Up)
		}
	}
}

// TestArgumentsKept: promise P8, arguments are neither changed nor retained.
func TestArgumentsKept(t *testing.T) {
	for _, e := range append(validLats(), invalidLats()...) {
		before := slices.Clone(e.l.Up)
		_ = lattice.Check(e.l)
		e.l.Leq(0, 0)
		e.l.Join(0, 0)
		e.l.Meet(0, 0)
		e.l.Bottom()
		e.l.Top()
		lattice.Same(e.l, e.l)
		if !slices.Equal(before, e.l.Up) {
			t.Errorf("%s: changed to %v", e.name, e.l.Up)
		}
	}
	l := lattice.Square()
	if l.Join(1, 2) != 3 {
		t.Errorf("Join is %d", l.Join(1, 2))
	}
	copy(l.Up, []uint8{0b0001, 0b0011, 0b0111, 0b1111})
	if l.Join(1, 2) != 1 || l.Bottom() != 3 || l.Top() != 0 {
		t.Errorf("after a change, Join is %d, Bottom is %d, Top is %d", l.Join(1, 2), l.Bottom(), l.Top())
	}
	l.Up[0] = 0
	if lattice.Check(l) == nil || l.Join(1, 2) != 0 {
		t.Errorf("after a change, %v is valid, Join is %d", l.Up, l.Join(1, 2))
	}
}
