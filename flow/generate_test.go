package flow_test

import (
	"math/rand/v2"
	"slices"
	"strconv"
	"strings"
)

// assemble returns the encoding of instructions that are divided by semicolons, such as "true; else 3 2;
// join; me". An operand of a jump or an else is the number of an instruction, or an offset after an @.
func assemble(text string) []byte {
	lines := strings.Split(text, "; ")
	offsets := []int{0}
	for _, line := range lines {
		name, _, _ := strings.Cut(line, " ")
		offsets = append(offsets, offsets[len(offsets)-1]+refSize(codeOf(name)))
	}
	var b []byte
	for _, line := range lines {
		b = append(b, assembleOne(line, offsets)...)
	}
	return b
}

func assembleOne(line string, offsets []int) []byte {
	words := strings.Fields(line)
	code := codeOf(words[0])
	b := []byte{code}
	for i, digit := range chapter[code].form {
		if digit == '1' {
			b = append(b, byte(mustInt(words[1+i])))
			continue
		}
		offset, ok := strings.CutPrefix(words[1+i], "@")
		n := mustInt(offset)
		if !ok {
			n = offsets[n]
		}
		b = append(b, byte(n/256), byte(n%256))
	}
	return b
}

func codeOf(name string) byte {
	code := slices.IndexFunc(chapter, func(i instruction) bool { return i.name == name })
	if code < 0 {
		panic("no instruction " + name)
	}
	return byte(code)
}

func mustInt(text string) int {
	n, err := strconv.Atoi(text)
	if err != nil {
		panic(err)
	}
	return n
}

// repeated returns an instruction so many times, each with the mark that divides it from the next.
func repeated(line string, n int) string {
	return strings.Repeat(line+"; ", n)
}

// writer makes well-formed code: lines of assembly, in which a line may be inserted later.
type writer struct {
	source *rand.Rand
	lines  []string
	size   int
	depth  int
}

func (w *writer) line(words ...string) int {
	w.lines = append(w.lines, strings.Join(words, " "))
	w.size += refSize(codeOf(strings.Fields(words[0])[0]))
	return len(w.lines) - 1
}

func (w *writer) choose(list ...string) string {
	return list[w.source.IntN(len(list))]
}

func (w *writer) bytes() []byte {
	return assemble(strings.Join(w.lines, "; "))
}

// push adds an instruction that pushes a value.
func (w *writer) push() {
	w.line(w.choose("self", "nil", "true", "false", "lit 7", "temp 1 2", "var 3", "block 1", "class 4"))
	w.depth++
}

// simple adds an instruction without a branch.
func (w *writer) simple() {
	choice := w.source.IntN(5)
	switch {
	case w.depth == 0 || choice == 0 && w.depth < 32:
		w.push()
	case choice == 1 && w.depth < 32:
		w.line("dup")
		w.depth++
	case choice == 2:
		w.line(w.choose("set 0 1", "put 2", "pop"))
		w.depth--
	case choice == 3:
		args := w.source.IntN(w.depth)
		w.line(w.choose("send 9 ", "super 9 ") + strconv.Itoa(args))
		w.depth -= args
	default:
		w.line("join")
	}
}

// block adds up to so many pieces of code that leave as many values on the stack as there were.
func (w *writer) block(pieces, nesting int) {
	depth := w.depth
	for n := w.source.IntN(pieces + 1); n > 0 && w.size < 440; n-- {
		switch choice := w.source.IntN(6); {
		case nesting == 0 || w.depth > 28 || choice > 2:
			w.simple()
		case choice == 0:
			w.loop(pieces, nesting-1)
		default:
			w.branch(pieces, nesting-1)
		}
		for w.depth > depth+3 {
			w.line("pop")
			w.depth--
		}
	}
	w.level(depth)
}

// level adds instructions until there are so many values on the stack.
func (w *writer) level(depth int) {
	for w.depth > depth {
		w.line("pop")
		w.depth--
	}
	for w.depth < depth {
		w.push()
	}
}

// branch adds two alternatives that meet again at a Join, or of which one ends.
func (w *writer) branch(pieces, nesting int) {
	w.push()
	w.depth--
	test := w.line("else 0 0")
	w.block(pieces, nesting)
	leave := -1
	if w.depth > 0 && w.source.IntN(4) == 0 {
		w.line(w.choose("answer", "home", "me"))
	} else {
		leave = w.line("jump 0")
	}
	other := strconv.Itoa(len(w.lines))
	w.block(pieces, nesting)
	join := strconv.Itoa(w.line("join"))
	w.lines[test] = "else " + other + " " + join
	if leave >= 0 {
		w.lines[leave] = "jump " + join
	}
}

// loop adds a loop with a test at its beginning.
func (w *writer) loop(pieces, nesting int) {
	begin := strconv.Itoa(len(w.lines))
	w.push()
	w.depth--
	test := w.line("else 0 0")
	w.block(pieces, nesting)
	w.line("jump " + begin)
	join := strconv.Itoa(w.line("join"))
	w.lines[test] = "else " + join + " " + join
}

// structured returns well-formed code as a compiler would make it: alternatives and loops in one another.
func structured(source *rand.Rand, pieces, nesting int) []byte {
	w := &writer{source: source}
	w.level(source.IntN(4) * source.IntN(10))
	w.block(pieces, nesting)
	if w.depth == 0 {
		w.push()
	}
	w.line(w.choose("answer", "home", "me"))
	return w.bytes()
}

// kinds of pieces of code, each of which leaves the stack as it was.
const kinds = 6

// piece returns the instructions of a piece of code. Two kinds have a target, one of these a Join.
func piece(kind int, target, join string) []string {
	return [][]string{
		{"join"},
		{"nil", "nil", "send 0 1", "pop"},
		{"true", "else " + target + " " + join},
		{"jump " + target},
		{"nil", "answer"},
		{"me"},
	}[kind]
}

// joined returns well-formed code of pieces that are entered at their beginnings only, from anywhere: list
// holds their kinds and the piece that each one's target is. Behind the last one stand a Join and an end, and
// the Join is the piece after the last one.
func joined(list [][2]int) []byte {
	starts := []int{0}
	for _, l := range list {
		starts = append(starts, starts[len(starts)-1]+len(piece(l[0], "0", "0")))
	}
	join := strconv.Itoa(starts[len(list)])
	var lines []string
	for _, l := range list {
		lines = append(lines, piece(l[0], strconv.Itoa(starts[l[1]]), join)...)
	}
	return assemble(strings.Join(append(lines, "join", "me"), "; "))
}

// tangled returns well-formed code of so many pieces with random targets.
func tangled(source *rand.Rand, pieces int) []byte {
	var list [][2]int
	for range pieces {
		kind := []int{0, 0, 1, 2, 2, 2, 2, 2, 3, 4, 5}[source.IntN(11)]
		list = append(list, [2]int{kind, source.IntN(pieces + 1)})
	}
	return joined(list)
}

// damaged returns b with one byte changed, removed or inserted.
func damaged(source *rand.Rand, b []byte) []byte {
	i := source.IntN(len(b))
	c := byte(source.IntN(24))
	switch source.IntN(4) {
	case 0:
		return slices.Delete(slices.Clone(b), i, i+1)
	case 1:
		return slices.Insert(slices.Clone(b), i, c)
	case 2:
		c = byte(source.IntN(256))
	}
	b = slices.Clone(b)
	b[i] = c
	return b
}
