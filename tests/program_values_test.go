package tests

import (
	"math"
	"slices"
	"testing"

	"loop.example/g00877/impl"
)

// bitwise returns the number of width w whose bits are what take makes of the bits of x and y.
func bitwise(x int, y int, w int, take func(a bool, b bool) bool) int {
	number := 0
	for i := range w {
		if take(x/(1<<i)%2 == 1, y/(1<<i)%2 == 1) {
			number += 1 << i
		}
	}
	return number
}

// opByHand returns what an operation makes of two numbers of width w.
func opByHand(op string, x int, y int, w int) int {
	switch op {
	case "+":
		return (x + y) % (1 << w)
	case "-":
		return (1<<w + x - y) % (1 << w)
	case "*":
		return x * y
	case "<":
		return map[bool]int{true: 1}[x < y]
	case "=":
		return map[bool]int{true: 1}[x == y]
	case "&":
		return bitwise(x, y, w, func(a bool, b bool) bool { return a && b })
	case "|":
		return bitwise(x, y, w, func(a bool, b bool) bool { return a || b })
	}
	return bitwise(x, y, w, func(a bool, b bool) bool { return a != b })
}

// numbersByHand returns the value of each line of a program.
func numbersByHand(l []impl.Line, a []int, b []int) []int {
	widths, _ := programByHand(l)
	values, all := map[string]int{}, []int{}
	read := [2]int{}
	for _, line := range l {
		value := 0
		switch line.Kind {
		case 1:
			value = [][]int{a, b}[line.Party][read[line.Party]]
			read[line.Party]++
		case 2:
			value = line.Value
		case 3:
			value = opByHand(line.Op, values[line.Parts[0]], values[line.Parts[1]], widths[line.Parts[0]])
		case 4:
			value = bitwise(values[line.Parts[0]], 0, widths[line.Name], func(a bool, _ bool) bool { return !a })
		case 5:
			value = values[line.Parts[2]]
			if values[line.Parts[0]] == 1 {
				value = values[line.Parts[1]]
			}
		case 6:
			value = values[line.Parts[0]]
		}
		if line.Kind != 6 {
			values[line.Name] = value
		}
		all = append(all, value)
	}
	return all
}

// ofResults returns the elements that stand at the results.
func ofResults(l []impl.Line, list []int) []int {
	chosen := []int{}
	for i, line := range l {
		if line.Kind == 6 {
			chosen = append(chosen, list[i])
		}
	}
	return chosen
}

func checkWidths(t *testing.T, l []impl.Line) {
	t.Helper()
	widths, _ := programByHand(l)
	all := []int{}
	for _, line := range l {
		if line.Kind == 6 {
			all = append(all, widths[line.Parts[0]])
			continue
		}
		all = append(all, widths[line.Name])
		if w, ok := impl.WidthOfName(l, line.Name); !ok || w != widths[line.Name] {
			t.Errorf("WidthOfName(%v, %q) = %d, %v, want %d", l, line.Name, w, ok, widths[line.Name])
		}
	}
	if w, ok := impl.OutWidths(l); !ok || !slices.Equal(w, ofResults(l, all)) {
		t.Errorf("OutWidths(%v) = %v, %v", l, w, ok)
	}
	for party := range 2 {
		if w, ok := impl.InputWidths(l, party); !ok || !slices.Equal(w, widthsOfInputs(l, party)) {
			t.Errorf("InputWidths(%v, %d) = %v, %v", l, party, w, ok)
		}
	}
	for _, name := range append([]string{"", "none", "toolong", "A", " ", "a\n"}, sampleNames...) {
		if w, ok := impl.WidthOfName(l, name); ok != (widths[name] > 0) || w != widths[name] {
			t.Errorf("WidthOfName(%v, %q) = %d, %v", l, name, w, ok)
		}
	}
}

func TestWidthsOfPrograms(t *testing.T) {
	for _, l := range samplePrograms() {
		checkWidths(t, l)
		for _, party := range slices.Concat(farInts, []int{2, 3}) {
			if w, ok := impl.InputWidths(l, party); ok || len(w) != 0 {
				t.Errorf("InputWidths(%v, %d) = %v, %v", l, party, w, ok)
			}
		}
	}
	l := wideProgram()
	for name, want := range map[string]int{"a": 10, "p": 10, "s": 10, "r": 10, "n": 10, "u": 1, "c": 5, "f": 1, "k": 10} {
		if w, ok := impl.WidthOfName(l, name); !ok || w != want {
			t.Errorf("WidthOfName(%q) = %d, %v, want %d", name, w, ok, want)
		}
	}
	if w, ok := impl.InputWidths(l, 1); !ok || !slices.Equal(w, []int{10, 5, 5}) {
		t.Error("widths of party 1:", w, ok)
	}
	if w, ok := impl.OutWidths(l); !ok || !slices.Equal(w, []int{10, 1, 10, 9}) {
		t.Error("widths of the results:", w, ok)
	}
}

// checkValues checks the values and results for inputs, and that results fit their widths.
func checkValues(t *testing.T, l []impl.Line, a []int, b []int) {
	t.Helper()
	want := numbersByHand(l, a, b)
	if values, ok := impl.ValuesIn(l, a, b); !ok || !slices.Equal(values, want) {
		t.Fatalf("ValuesIn(%v, %v, %v) = %v, %v, want %v", l, a, b, values, ok, want)
	}
	results, ok := impl.RunProgram(l, a, b)
	if !ok || !slices.Equal(results, ofResults(l, want)) {
		t.Fatalf("RunProgram(%v, %v, %v) = %v, %v, want %v", l, a, b, results, ok, ofResults(l, want))
	}
	widths, _ := impl.OutWidths(l)
	for i, result := range results {
		if result < 0 || result >= 1<<widths[i] {
			t.Fatalf("RunProgram(%v, %v, %v) = %v does not fit the widths %v", l, a, b, results, widths)
		}
	}
}

func TestValuesOfPrograms(t *testing.T) {
	for _, l := range samplePrograms() {
		eachNumbers(l, func(a []int, b []int) { checkValues(t, l, a, b) })
	}
	for seed := range 300 {
		l := sampleProgram(5+seed%26, 6, seed+1000)
		eachNumbers(l, func(a []int, b []int) { checkValues(t, l, a, b) })
	}
}

// allOps has an input of each party of some width, a line for each operation that fits, and the other kinds.
func allOps(width int) []impl.Line {
	l := linesOf(inputLine(1, "y", width), inputLine(0, "x", width))
	for i, op := range opsInOrder {
		if op != "*" || width <= 5 {
			l = append(l, twoLine(string(rune('a'+i)), "x", op, "y"))
		}
	}
	return append(l, notLine("n", "x"), pickLine("p", "d", "x", "y"), outLine("n"), outLine("a"), outLine("p"))
}

func TestEachOperation(t *testing.T) {
	for width := 1; width <= 10; width++ {
		l := allOps(width)
		step := max(1, 1<<width/64)
		for x := 0; x < 1<<width; x += step {
			for y := 0; y < 1<<width; y += step {
				checkValues(t, l, []int{x}, []int{y})
			}
			checkValues(t, l, []int{x}, []int{1<<width - 1})
			checkValues(t, l, []int{1<<width - 1}, []int{x})
		}
		checkValues(t, l, []int{1<<width - 1}, []int{1<<width - 1})
	}
}

func TestValuesByTable(t *testing.T) {
	for _, c := range []struct {
		line impl.Line
		want []int
	}{
		{twoLine("z", "x", "+", "y"), []int{0, 1, 2, 3, 1, 2, 3, 0, 2, 3, 0, 1, 3, 0, 1, 2}},
		{twoLine("z", "x", "-", "y"), []int{0, 3, 2, 1, 1, 0, 3, 2, 2, 1, 0, 3, 3, 2, 1, 0}},
		{twoLine("z", "x", "*", "y"), []int{0, 0, 0, 0, 0, 1, 2, 3, 0, 2, 4, 6, 0, 3, 6, 9}},
		{twoLine("z", "x", "<", "y"), []int{0, 1, 1, 1, 0, 0, 1, 1, 0, 0, 0, 1, 0, 0, 0, 0}},
		{twoLine("z", "x", "=", "y"), []int{1, 0, 0, 0, 0, 1, 0, 0, 0, 0, 1, 0, 0, 0, 0, 1}},
		{twoLine("z", "x", "&", "y"), []int{0, 0, 0, 0, 0, 1, 0, 1, 0, 0, 2, 2, 0, 1, 2, 3}},
		{twoLine("z", "x", "|", "y"), []int{0, 1, 2, 3, 1, 1, 3, 3, 2, 3, 2, 3, 3, 3, 3, 3}},
		{twoLine("z", "x", "^", "y"), []int{0, 1, 2, 3, 1, 0, 3, 2, 2, 3, 0, 1, 3, 2, 1, 0}},
		{notLine("z", "x"), []int{3, 3, 3, 3, 2, 2, 2, 2, 1, 1, 1, 1, 0, 0, 0, 0}},
		{pickLine("z", "s", "x", "y"), []int{0, 0, 0, 0, 1, 1, 1, 1, 2, 2, 2, 2, 3, 3, 3, 3}},
		{pickLine("z", "r", "x", "y"), []int{0, 1, 2, 3, 0, 1, 2, 3, 0, 1, 2, 3, 0, 1, 2, 3}},
		{constLine("z", 2, 2), []int{2, 2, 2, 2, 2, 2, 2, 2, 2, 2, 2, 2, 2, 2, 2, 2}},
	} {
		l := linesOf(constLine("s", 1, 1), constLine("r", 1, 0), inputLine(0, "x", 2), inputLine(1, "y", 2), c.line, outLine("z"))
		for i, want := range c.want {
			if r, ok := impl.RunProgram(l, []int{i / 4}, []int{i % 4}); !ok || !slices.Equal(r, []int{want}) {
				t.Errorf("%v of %d and %d is %v, %v, want %d", c.line, i/4, i%4, r, ok, want)
			}
		}
	}
}

func TestProgramInputsInOrder(t *testing.T) {
	l := linesOf(inputLine(1, "c", 4), inputLine(0, "a", 3), constLine("k", 10, 1000), inputLine(0, "b", 2), outLine("b"), inputLine(1, "d", 1), outLine("a"), outLine("d"), outLine("c"), outLine("b"))
	if v, ok := impl.ValuesIn(l, []int{7, 2}, []int{15, 1}); !ok || !slices.Equal(v, []int{15, 7, 1000, 2, 2, 1, 7, 1, 15, 2}) {
		t.Error("values", v, ok)
	}
	if r, ok := impl.RunProgram(l, []int{7, 2}, []int{15, 1}); !ok || !slices.Equal(r, []int{2, 7, 1, 15, 2}) {
		t.Error("results", r, ok)
	}
	if r, ok := impl.RunProgram(exampleProgram(), []int{5}, []int{6}); !ok || !slices.Equal(r, []int{3}) {
		t.Error("the document's example", r, ok)
	}
	if v, ok := impl.ValuesIn(nil, nil, nil); !ok || len(v) != 0 {
		t.Error("values of no lines", v, ok)
	}
	if r, ok := impl.RunProgram([]impl.Line{}, []int{}, []int{}); !ok || len(r) != 0 {
		t.Error("results of no lines", r, ok)
	}
}

// checkInputsRefused checks that a program has no values for inputs.
func checkInputsRefused(t *testing.T, l []impl.Line, a []int, b []int) {
	t.Helper()
	if v, ok := impl.ValuesIn(l, a, b); ok || len(v) != 0 {
		t.Errorf("ValuesIn(%v, %v, %v) = %v, %v", l, a, b, v, ok)
	}
	if r, ok := impl.RunProgram(l, a, b); ok || len(r) != 0 {
		t.Errorf("RunProgram(%v, %v, %v) = %v, %v", l, a, b, r, ok)
	}
}

func TestProgramInputsThatDoNotFit(t *testing.T) {
	for _, l := range samplePrograms() {
		a, b := fittingNumbers(l, 0), fittingNumbers(l, 1)
		checkValues(t, l, a, b)
		checkInputsRefused(t, l, append(slices.Clone(a), 0), b)
		checkInputsRefused(t, l, a, append(slices.Clone(b), 0))
		checkInputsRefused(t, l, a, repeated(0, 50000))
		for i := range a {
			checkInputsRefused(t, l, a[:i], b)
			for _, n := range slices.Concat(farInts, []int{a[i] + 1, a[i] + 2}) {
				if n < 0 || n > a[i] {
					checkInputsRefused(t, l, slices.Concat(a[:i], []int{n}, a[i+1:]), b)
				}
			}
		}
		for i := range b {
			checkInputsRefused(t, l, a, b[:i])
			for _, n := range slices.Concat(farInts, []int{b[i] + 1, b[i] + 2}) {
				if n < 0 || n > b[i] {
					checkInputsRefused(t, l, a, slices.Concat(b[:i], []int{n}, b[i+1:]))
				}
			}
		}
	}
	checkInputsRefused(t, exampleProgram(), nil, nil)
	checkInputsRefused(t, exampleProgram(), []int{5, 6}, nil)
	checkInputsRefused(t, exampleProgram(), []int{5}, []int{8})
	checkInputsRefused(t, exampleProgram(), []int{math.MinInt}, []int{math.MaxInt})
	for _, l := range noPrograms() {
		checkInputsRefused(t, l, []int{1}, nil)
		checkInputsRefused(t, l, nil, []int{1})
	}
}

// isNeeded follows the uses of a name forward, and does without the program under test.
func isNeeded(l []impl.Line, name string) bool {
	made := map[string]bool{name: true}
	for _, line := range l {
		if !slices.ContainsFunc(line.Parts, func(part string) bool { return made[part] }) {
			continue
		}
		if line.Kind == 6 {
			return true
		}
		made[line.Name] = true
	}
	return false
}

func checkNeeded(t *testing.T, l []impl.Line) {
	t.Helper()
	names, lines := []string{}, []impl.Line{}
	for _, line := range l {
		needed := line.Kind != 6 && isNeeded(l, line.Name)
		if needed {
			names = append(names, line.Name)
		}
		if needed || line.Kind == 1 || line.Kind == 6 {
			lines = append(lines, line)
		}
	}
	if n, ok := impl.NeededNames(l); !ok || !slices.Equal(n, names) {
		t.Fatalf("NeededNames(%v) = %v, %v, want %v", l, n, ok, names)
	}
	trimmed, ok := impl.TrimProgram(l)
	if !ok || !sameLines(trimmed, lines) || !impl.IsProgram(trimmed) {
		t.Fatalf("TrimProgram(%v) = %v, %v, want %v", l, trimmed, ok, lines)
	}
	if again, ok := impl.TrimProgram(trimmed); !ok || !sameLines(again, trimmed) {
		t.Fatalf("TrimProgram(%v), again, = %v, %v", l, again, ok)
	}
	eachNumbers(l, func(a []int, b []int) {
		before, _ := impl.RunProgram(l, a, b)
		if after, ok := impl.RunProgram(trimmed, a, b); !ok || !slices.Equal(after, before) {
			t.Fatalf("RunProgram(%v, %v, %v) = %v, and %v when trimmed", l, a, b, before, after)
		}
	})
}

func TestNeededNames(t *testing.T) {
	for _, l := range samplePrograms() {
		checkNeeded(t, l)
	}
	for seed := range 300 {
		l := sampleProgram(5+seed%26, 6, seed+2000)
		checkNeeded(t, l)
		checkNeeded(t, slices.DeleteFunc(slices.Clone(l), func(line impl.Line) bool { return line.Kind == 6 }))
	}
}

func TestTrimmedPrograms(t *testing.T) {
	x, y, k, m := inputLine(0, "x", 1), inputLine(1, "y", 1), constLine("k", 1, 1), constLine("m", 3, 5)
	sum, not, pick := twoLine("s", "x", "+", "k"), notLine("n", "s"), pickLine("p", "x", "s", "n")
	late := twoLine("l", "p", "=", "p")
	for _, c := range []struct {
		lines, want []impl.Line
		names       []string
	}{
		{nil, nil, nil},
		{linesOf(x, y, k, m), linesOf(x, y), nil},
		{linesOf(x, k, m, sum, not, pick, late), linesOf(x), nil},
		{linesOf(x, y, k, outLine("k"), m, sum, not, pick), linesOf(x, y, k, outLine("k")), []string{"k"}},
		{linesOf(x, y, k, m, sum, outLine("s"), not, pick), linesOf(x, y, k, sum, outLine("s")), []string{"x", "k", "s"}},
		{linesOf(k, y, m, x, sum, not, outLine("n"), pick), linesOf(k, y, x, sum, not, outLine("n")), []string{"k", "x", "s", "n"}},
		{linesOf(x, k, sum, not, pick, late, outLine("p"), y), linesOf(x, k, sum, not, pick, outLine("p"), y), []string{"x", "k", "s", "n", "p"}},
		{linesOf(m, x, y, outLine("y"), outLine("m"), outLine("y")), linesOf(m, x, y, outLine("y"), outLine("m"), outLine("y")), []string{"m", "y"}},
		{linesOf(k, constLine("a", 1, 0), constLine("b", 1, 0), pickLine("p", "k", "a", "b"), outLine("p")),
			linesOf(k, constLine("a", 1, 0), constLine("b", 1, 0), pickLine("p", "k", "a", "b"), outLine("p")), []string{"k", "a", "b", "p"}},
	} {
		if l, ok := impl.TrimProgram(c.lines); !ok || !sameLines(l, c.want) {
			t.Errorf("TrimProgram(%v) = %v, %v, want %v", c.lines, l, ok, c.want)
		}
		if names, ok := impl.NeededNames(c.lines); !ok || !slices.Equal(names, c.names) {
			t.Errorf("NeededNames(%v) = %v, %v, want %v", c.lines, names, ok, c.names)
		}
		checkNeeded(t, c.lines)
	}
}

func TestCountOps(t *testing.T) {
	programs := samplePrograms()
	for width := 1; width <= 10; width++ {
		programs = append(programs, allOps(width))
	}
	for _, l := range programs {
		want := make([]int, 10)
		for _, line := range l {
			for i, op := range opsInOrder {
				if line.Op == op {
					want[i]++
				}
			}
			if line.Kind == 4 {
				want[8]++
			}
			if line.Kind == 5 {
				want[9]++
			}
		}
		if counts, ok := impl.CountOps(l); !ok || !slices.Equal(counts, want) {
			t.Errorf("CountOps(%v) = %v, %v, want %v", l, counts, ok, want)
		}
	}
	for i, op := range opsInOrder {
		want := make([]int, 10)
		want[i], want[8], want[9] = 3, 2, 1
		x, two := inputLine(0, "x", 1), twoLine("a", "x", op, "x")
		second, third := twoLine("b", "x", op, "x"), twoLine("c", "x", op, "x")
		l := linesOf(x, notLine("n", "x"), two, second, constLine("k", 2, 2), third, outLine("x"), notLine("m", "k"), pickLine("p", "x", "m", "k"))
		if counts, ok := impl.CountOps(l); !ok || !slices.Equal(counts, want) {
			t.Errorf("CountOps(%v) = %v, %v, want %v", l, counts, ok, want)
		}
	}
}
