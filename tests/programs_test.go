package tests

import (
	"math"
	"regexp"
	"slices"
	"testing"

	"loop.example/g00877/impl"
)

var opsInOrder = []string{"+", "-", "*", "<", "=", "&", "|", "^"}

func inputLine(party int, name string, width int) impl.Line {
	return impl.Line{Kind: 1, Party: party, Name: name, Width: width}
}

func constLine(name string, width int, value int) impl.Line {
	return impl.Line{Kind: 2, Name: name, Width: width, Value: value}
}

func twoLine(name string, x string, op string, y string) impl.Line {
	return impl.Line{Kind: 3, Name: name, Op: op, Parts: []string{x, y}}
}

func notLine(name string, part string) impl.Line {
	return impl.Line{Kind: 4, Name: name, Parts: []string{part}}
}

func pickLine(name string, s string, x string, y string) impl.Line {
	return impl.Line{Kind: 5, Name: name, Parts: []string{s, x, y}}
}

func outLine(part string) impl.Line {
	return impl.Line{Kind: 6, Parts: []string{part}}
}

// linesOf spares the tests the type's name.
func linesOf(lines ...impl.Line) []impl.Line {
	return lines
}

func sameLine(x impl.Line, y impl.Line) bool {
	return x.Kind == y.Kind && x.Name == y.Name && x.Op == y.Op && slices.Equal(x.Parts, y.Parts) && x.Party == y.Party && x.Width == y.Width && x.Value == y.Value
}

func sameLines(l []impl.Line, m []impl.Line) bool {
	return slices.EqualFunc(l, m, sameLine)
}

// cloneLines copies the parts too, and leaves nothing behind a list.
func cloneLines(l []impl.Line) []impl.Line {
	lines := slices.Clone(l)
	for i := range lines {
		lines[i].Parts = slices.Clone(lines[i].Parts)
	}
	return slices.Clip(lines)
}

var namesByHand = regexp.MustCompile(`\A[a-z]{1,6}\z`)

// remade returns what the line's kind says of it, without the fields that the kind does not have, and
// the width of its number for the widths so far; the width 0 stands for a line that does not fit.
func remade(line impl.Line, widths map[string]int) (impl.Line, int) {
	w := [4]int{}
	for i, part := range line.Parts[:min(3, len(line.Parts))] {
		w[i] = widths[part]
	}
	parts := append(slices.Clone(line.Parts), "", "", "")
	switch line.Kind {
	case 1:
		if line.Party == 0 || line.Party == 1 {
			w[3] = line.Width
		}
		return inputLine(line.Party, line.Name, line.Width), w[3]
	case 2:
		if line.Value >= 0 && float64(line.Value) < math.Pow(2, float64(line.Width)) {
			w[3] = line.Width
		}
		return constLine(line.Name, line.Width, line.Value), w[3]
	case 3:
		if w[0] == w[1] && w[0] > 0 {
			w[3] = map[string]int{"+": w[0], "-": w[0], "*": 2 * w[0], "<": 1, "=": 1, "&": w[0], "|": w[0], "^": w[0]}[line.Op]
		}
		return twoLine(line.Name, parts[0], line.Op, parts[1]), w[3]
	case 4:
		return notLine(line.Name, parts[0]), w[0]
	case 5:
		if w[0] == 1 && w[1] == w[2] {
			w[3] = w[1]
		}
		return pickLine(line.Name, parts[0], parts[1], parts[2]), w[3]
	case 6:
		return outLine(parts[0]), w[0]
	}
	return impl.Line{}, 0
}

// programByHand returns the widths of the names, and whether the lines are a program, without the program under test.
func programByHand(l []impl.Line) (map[string]int, bool) {
	widths, bits, outs := map[string]int{}, [2]int{}, 0
	for _, line := range l {
		want, width := remade(line, widths)
		if !sameLine(line, want) || width < 1 || width > 10 {
			return nil, false
		}
		if line.Kind == 6 {
			outs++
			continue
		}
		if widths[line.Name] != 0 || !namesByHand.MatchString(line.Name) {
			return nil, false
		}
		widths[line.Name] = width
		if line.Kind == 1 {
			bits[line.Party] += width
		}
	}
	return widths, len(l) <= 30 && bits[0] <= 20 && bits[1] <= 20 && outs <= 10
}

// sampleNames are different names of all lengths, the words of texts among them.
var sampleNames = []string{
	"a", "z", "input", "const", "let", "not", "pick", "out", "x", "y", "outs", "ab", "ba", "aa", "zzzzzz", "abcdef",
	"aaaaaa", "b", "zz", "az", "lets", "inputs", "pq", "xy", "yx", "aaa", "mmmmm", "qrstuv", "ee", "wxyz",
}

// programSampler makes lines that fit, one after the other.
type programSampler struct {
	state  uint64
	lines  []impl.Line
	widths map[string]int
	bits   [2]int
	most   int
	outs   int
}

func (s *programSampler) below(n int) int {
	s.state = s.state*6364136223846793005 + 1442695040888963407
	return int(s.state >> 33 % uint64(n))
}

// given returns the names of a width, or of all widths for the width 0, in order.
func (s *programSampler) given(width int) []string {
	names := []string{}
	for _, line := range s.lines {
		if line.Kind != 6 && (width == 0 || s.widths[line.Name] == width) {
			names = append(names, line.Name)
		}
	}
	return names
}

// one returns one of the names of a width; it must have some.
func (s *programSampler) one(width int) string {
	names := s.given(width)
	return names[s.below(len(names))]
}

// line returns a line of some kind, which may not fit.
func (s *programSampler) line(name string) impl.Line {
	kind := s.below(12)
	if len(s.given(0)) == 0 || kind == 0 {
		if s.below(2) == 0 {
			return inputLine(s.below(2), name, 1+s.below(4))
		}
		width := 1 + s.below(10)
		return constLine(name, width, s.below(1<<width))
	}
	x := s.one(0)
	width := s.widths[x]
	switch {
	case kind <= 2:
		return inputLine(s.below(2), name, 1+s.below(4))
	case kind == 3:
		return notLine(name, x)
	case kind <= 5:
		return outLine(x)
	case kind <= 7 && len(s.given(1)) > 0:
		return pickLine(name, s.one(1), x, s.one(width))
	}
	return twoLine(name, x, opsInOrder[s.below(8)], s.one(width))
}

// add adds a line if it fits, and reports whether it does.
func (s *programSampler) add(line impl.Line) bool {
	_, width := remade(line, s.widths)
	switch {
	case width == 0 || width > 10 || line.Kind == 6 && s.outs == 10:
		return false
	case line.Kind == 1 && (s.bits[line.Party]+width > 20 || s.bits[0]+s.bits[1]+width > s.most):
		return false
	case line.Kind == 1:
		s.bits[line.Party] += width
	case line.Kind == 6:
		s.outs++
	}
	if line.Kind != 6 {
		s.widths[line.Name] = width
	}
	s.lines = append(s.lines, line)
	return true
}

// sampleProgram returns a program of that many lines and at most that many bits of input, which follows no short rule.
func sampleProgram(lines int, bits int, seed int) []impl.Line {
	s := programSampler{state: uint64(seed)*2862933555777941757 + 3037000493, widths: map[string]int{}, most: bits}
	names := slices.Clone(sampleNames)
	for i := range names {
		j := s.below(i + 1)
		names[i], names[j] = names[j], names[i]
	}
	for len(s.lines) < lines {
		s.add(s.line(names[len(s.lines)]))
	}
	return slices.Clip(s.lines)
}

// samplePrograms returns programs of all lengths, some with few bits of input and some with many, and the limits.
func samplePrograms() [][]impl.Line {
	programs := [][]impl.Line{nil, fullProgram(), wideProgram(), exampleProgram()}
	for lines := range 31 {
		for seed := range 4 {
			programs = append(programs, sampleProgram(lines, 6, 10*lines+seed), sampleProgram(lines, 40, 10*lines+seed+5))
		}
	}
	return programs
}

// exampleProgram is that of the document.
func exampleProgram() []impl.Line {
	return linesOf(inputLine(0, "x", 3), inputLine(1, "y", 3), twoLine("z", "x", "+", "y"), outLine("z"))
}

// fullProgram has as many lines and results as there may be.
func fullProgram() []impl.Line {
	l := linesOf(inputLine(0, "x", 2), inputLine(1, "y", 2))
	for i, name := range sampleNames[10:28] {
		l = append(l, twoLine(name, "x", opsInOrder[i%8], "y"))
	}
	for _, name := range sampleNames[18:28] {
		l = append(l, outLine(name))
	}
	return l
}

// wideProgram has as many bits of both parties as there may be, and the widest numbers.
func wideProgram() []impl.Line {
	return linesOf(inputLine(1, "a", 10), inputLine(0, "b", 10), inputLine(1, "c", 5), inputLine(0, "d", 9), inputLine(1, "e", 5), inputLine(0, "f", 1),
		twoLine("p", "c", "*", "e"), twoLine("s", "a", "-", "b"), constLine("k", 10, 1023), pickLine("r", "f", "s", "p"), notLine("n", "k"),
		twoLine("t", "r", "|", "n"), twoLine("u", "t", "<", "k"), outLine("t"), outLine("u"), outLine("a"), outLine("d"))
}

func TestSamplesAreProgramsByHand(t *testing.T) {
	for _, l := range samplePrograms() {
		if _, ok := programByHand(l); !ok {
			t.Fatalf("no program: %v", l)
		}
	}
	if l := fullProgram(); len(l) != 30 {
		t.Errorf("%d lines", len(l))
	}
}

// widthsOfInputs returns the widths of the inputs of a party.
func widthsOfInputs(l []impl.Line, party int) []int {
	widths := []int{}
	for _, line := range l {
		if line.Kind == 1 && line.Party == party {
			widths = append(widths, line.Width)
		}
	}
	return widths
}

// numbersWithin returns numbers within widths: the bits of n, from the lowest one on.
func numbersWithin(widths []int, n int) []int {
	numbers := make([]int, len(widths))
	for i, width := range widths {
		numbers[i] = n & (1<<width - 1)
		n >>= width
	}
	return numbers
}

// eachNumbers calls visit with all inputs of a program with few bits of them, and with some inputs of the others.
func eachNumbers(l []impl.Line, visit func(a []int, b []int)) {
	first, second := widthsOfInputs(l, 0), widthsOfInputs(l, 1)
	bits := 0
	for _, width := range slices.Concat(first, second) {
		bits += width
	}
	step := 1
	if bits > 6 {
		step = 1<<bits/30 | 1
	}
	for n := 0; n < 1<<bits; n += step {
		both := numbersWithin(slices.Concat(first, second), n)
		visit(both[:len(first):len(first)], both[len(first):])
	}
	both := numbersWithin(slices.Concat(first, second), 1<<bits-1)
	visit(both[:len(first):len(first)], both[len(first):])
}
