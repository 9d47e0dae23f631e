package flow_test

import (
	"errors"
	"slices"
	"testing"

	"colloquy/api"
	"colloquy/flow"
)

// instruction is one of chapter 7, with its effect on the stack by the section Terms of chapter 8: how many
// values it needs, how many of them it pops, and how many it pushes.
type instruction struct {
	name                string
	form                string
	needs, pops, pushes int
}

// perOperand stands for as many values as the operand B says, and one.
const perOperand = -1

// chapter holds the instructions by their codes.
var chapter = []instruction{
	{"self", "", 0, 0, 1},
	{"nil", "", 0, 0, 1},
	{"true", "", 0, 0, 1},
	{"false", "", 0, 0, 1},
	{"lit", "1", 0, 0, 1},
	{"temp", "11", 0, 0, 1},
	{"set", "11", 1, 1, 0},
	{"var", "1", 0, 0, 1},
	{"put", "1", 1, 1, 0},
	{"pop", "", 1, 1, 0},
	{"dup", "", 1, 0, 1},
	{"send", "11", perOperand, perOperand, 1},
	{"super", "11", perOperand, perOperand, 1},
	{"jump", "2", 0, 0, 0},
	{"else", "22", 1, 1, 0},
	{"join", "", 0, 0, 0},
	{"block", "1", 0, 0, 1},
	{"answer", "", 1, 1, 0},
	{"me", "", 0, 0, 0},
	{"home", "", 1, 1, 0},
	{"class", "1", 0, 0, 1},
}

// errno returns the number of an error, or 0 if there is none.
func errno(t *testing.T, err error) api.Errno {
	t.Helper()
	var n api.Errno
	if err != nil && !errors.As(err, &n) {
		t.Fatalf("error %v has no number", err)
	}
	return n
}

// decoded is an instruction of code: its name, its operands, the offset at which it begins, and its effect.
type decoded struct {
	name                string
	a, b, at            int
	needs, pops, pushes int
}

// refSize returns the number of bytes of an encoding, or 0 if there is no such instruction.
func refSize(code byte) int {
	if int(code) >= len(chapter) {
		return 0
	}
	size := 1
	for _, digit := range chapter[code].form {
		size += int(digit - '0')
	}
	return size
}

// refOne returns the instruction whose encoding is b.
func refOne(b []byte, at int) decoded {
	i := chapter[b[0]]
	d := decoded{name: i.name, at: at, needs: i.needs, pops: i.pops, pushes: i.pushes}
	switch i.form {
	case "1":
		d.a = int(b[1])
	case "2":
		d.a = int(b[1])*256 + int(b[2])
	case "11":
		d.a, d.b = int(b[1]), int(b[2])
	case "22":
		d.a, d.b = int(b[1])*256+int(b[2]), int(b[3])*256+int(b[4])
	}
	if i.pops == perOperand {
		d.needs, d.pops = d.b+1, d.b+1
	}
	return d
}

func refDecode(b []byte) ([]decoded, api.Errno) {
	if len(b) > 512 {
		return nil, api.ErrLong
	}
	var l []decoded
	for at := 0; at < len(b); {
		size := refSize(b[at])
		if size == 0 || at+size > len(b) {
			return nil, api.ErrCode
		}
		l = append(l, refOne(b[at:at+size], at))
		at += size
	}
	return l, 0
}

// refAt returns the number of the instruction that begins at an offset, or -1 if none does.
func refAt(l []decoded, offset int) int {
	return slices.IndexFunc(l, func(d decoded) bool { return d.at == offset })
}

// refSuccessors returns those of instruction i as the chapter lists them, -1 for one that there is not.
func refSuccessors(l []decoded, i int) []int {
	next := i + 1
	if next == len(l) {
		next = -1
	}
	switch l[i].name {
	case "answer", "me", "home":
		return nil
	case "jump":
		return []int{refAt(l, l[i].a)}
	case "else":
		return []int{next, refAt(l, l[i].a)}
	}
	return []int{next}
}

// refNext returns the successors of instruction i, or the error, given what refDecode returned.
func refNext(l []decoded, e api.Errno, i int) ([]int, api.Errno) {
	if e != 0 {
		return nil, e
	}
	if i < 0 || i >= len(l) {
		return nil, api.ErrRange
	}
	successors := refSuccessors(l, i)
	if slices.Contains(successors, -1) {
		return nil, api.ErrCode
	}
	var next []int
	for n := range l {
		if slices.Contains(successors, n) {
			next = append(next, n)
		}
	}
	return next, 0
}

// refGraph returns the successors of each instruction, or nil if one lacks a successor, if the operand B of an
// Else is not that of a Join, or if there is no instruction.
func refGraph(l []decoded) [][]int {
	var graph [][]int
	for i, d := range l {
		successors := refSuccessors(l, i)
		if slices.Contains(successors, -1) {
			return nil
		}
		if d.name == "else" {
			if join := refAt(l, d.b); join < 0 || l[join].name != "join" {
				return nil
			}
		}
		graph = append(graph, successors)
	}
	return graph
}

// refStates returns, for each instruction, with which numbers of values on the stack it is reached, each
// once, or false if one of them is more than 32 or less than the instruction needs.
func refStates(l []decoded, graph [][]int) ([][]int, bool) {
	var seen [512][33]bool
	states := make([][]int, len(l))
	type state struct{ i, depth int }
	for work := []state{{0, 0}}; len(work) > 0; {
		s := work[0]
		work = work[1:]
		if s.depth > 32 || s.depth < l[s.i].needs {
			return nil, false
		}
		if seen[s.i][s.depth] {
			continue
		}
		seen[s.i][s.depth] = true
		states[s.i] = append(states[s.i], s.depth)
		for _, n := range graph[s.i] {
			work = append(work, state{n, s.depth - l[s.i].pops + l[s.i].pushes})
		}
	}
	return states, true
}

// refAnalyze returns the successors of each instruction and the depths before it.
func refAnalyze(b []byte) ([][]int, []int, api.Errno) {
	l, e := refDecode(b)
	if e != 0 {
		return nil, nil, e
	}
	graph := refGraph(l)
	if graph == nil {
		return nil, nil, api.ErrCode
	}
	states, ok := refStates(l, graph)
	if !ok {
		return nil, nil, api.ErrCode
	}
	depths := make([]int, len(l))
	for i, s := range states {
		switch len(s) {
		case 0:
			depths[i] = -1
		case 1:
			depths[i] = s[0]
		default:
			return nil, nil, api.ErrCode
		}
	}
	return graph, depths, 0
}

// walk returns which instructions lie on a path from one to others without going through a third one (-1:
// through any).
func walk(graph [][]int, from, without int) []bool {
	seen := make([]bool, len(graph))
	if from == without {
		return seen
	}
	seen[from] = true
	for work := []int{from}; len(work) > 0; {
		i := work[len(work)-1]
		work = work[:len(work)-1]
		for _, n := range graph[i] {
			if n != without && !seen[n] {
				seen[n] = true
				work = append(work, n)
			}
		}
	}
	return seen
}

func hasEnd(graph [][]int, seen []bool) bool {
	for i, s := range seen {
		if s && len(graph[i]) == 0 {
			return true
		}
	}
	return false
}

// refPost looks, for each instruction, for those without which no path reaches an end, and among them for the
// one that is reached before all others.
func refPost(graph [][]int) []int {
	post := make([]int, len(graph))
	for i := range graph {
		post[i] = -1
		if !hasEnd(graph, walk(graph, i, -1)) {
			continue
		}
		var candidates []int
		for d := range graph {
			if d != i && !hasEnd(graph, walk(graph, i, d)) {
				candidates = append(candidates, d)
			}
		}
		for _, d := range candidates {
			before := walk(graph, i, d)
			if !slices.ContainsFunc(candidates, func(c int) bool { return before[c] }) {
				post[i] = d
			}
		}
	}
	return post
}

// checkNext compares Next with the reference, for all instructions and for some numbers that are of none. It
// returns the number of instructions.
func checkNext(t *testing.T, b []byte) int {
	t.Helper()
	l, e := refDecode(b)
	for i := -2; i < len(l)+3; i++ {
		want, wantErr := refNext(l, e, i)
		got, err := flow.Next(b, i)
		if errno(t, err) != wantErr || !slices.Equal(got, want) {
			t.Fatalf("Next(%x, %d): %d, %v, want %d, %v", b, i, got, err, want, wantErr)
		}
	}
	return len(l)
}

// checkDefinition compares all functions with the reference. It returns the error that Check should give.
func checkDefinition(t *testing.T, b []byte) api.Errno {
	t.Helper()
	checkNext(t, b)
	graph, wantDepths, want := refAnalyze(b)
	wantPost := refPost(graph)
	if err := flow.Check(b); errno(t, err) != want {
		t.Fatalf("Check(%x): %v, want %v", b, err, want)
	}
	depths, err := flow.Depths(b)
	if errno(t, err) != want || !slices.Equal(depths, wantDepths) {
		t.Fatalf("Depths(%x): %d, %v, want %d, %v", b, depths, err, wantDepths, want)
	}
	post, err := flow.Post(b)
	if errno(t, err) != want || !slices.Equal(post, wantPost) {
		t.Fatalf("Post(%x): %d, %v, want %d, %v", b, post, err, wantPost, want)
	}
	return want
}
