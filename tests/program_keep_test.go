package tests

import (
	"reflect"
	"slices"
	"testing"

	"loop.example/g00877/impl"
)

// noPrograms returns lists of lines that are no programs, most of them for one reason alone.
func noPrograms() [][]impl.Line {
	programs := [][]impl.Line{
		append(fullProgram(), constLine("new", 1, 0)),
		append(linesOf(constLine("a", 1, 0)), slices.Repeat(linesOf(outLine("a")), 11)...),
		{inputLine(0, "a", 10), inputLine(0, "b", 10), inputLine(0, "c", 1)}, {inputLine(1, "a", 10), inputLine(1, "b", 9), inputLine(1, "c", 2)},
		slices.Repeat(linesOf(outLine("a")), 5000),
		{outLine("a"), constLine("a", 1, 1)}, {notLine("b", "a"), constLine("a", 1, 1), outLine("b")}, {notLine("a", "a")}, {outLine("a")},
		{constLine("a", 1, 1), constLine("a", 1, 1)}, {constLine("a", 1, 1), inputLine(0, "a", 1), outLine("a")},
		{constLine("a", 2, 1), constLine("b", 3, 1), twoLine("c", "a", "+", "b")}, {constLine("a", 6, 1), twoLine("b", "a", "*", "a")},
		{constLine("a", 2, 1), pickLine("b", "a", "a", "a")}, {constLine("a", 1, 1), constLine("b", 2, 1), pickLine("c", "a", "a", "b")},
	}
	for _, line := range noLines() {
		programs = append(programs, linesOf(line), linesOf(constLine("x", 1, 0), constLine("y", 1, 1), line), linesOf(constLine("x", 1, 0), line, outLine("x")))
	}
	return programs
}

// noLines returns lines that stand in no program, even behind lines that give x and y the width 1.
func noLines() []impl.Line {
	lines := linesOf(
		inputLine(2, "a", 1), inputLine(-1, "a", 1), inputLine(0, "a", 0), inputLine(0, "a", 11), inputLine(1, "a", -1), inputLine(0, "", 1), inputLine(0, "A", 1),
		constLine("a", 0, 0), constLine("a", 11, 0), constLine("a", 3, 8), constLine("a", 3, -1), constLine("", 1, 0), constLine("abcdefg", 1, 0), constLine("a", 64, 0),
		twoLine("a", "x", "", "y"), twoLine("a", "x", "/", "y"), twoLine("a", "", "+", ""), twoLine("", "x", "+", "y"), twoLine("a", "x", "+", "b"),
		notLine("", "x"), notLine("a", ""), notLine("a", "X"), pickLine("a", "", "x", "y"), pickLine("", "x", "x", "y"), pickLine("a", "x", "x", "b"), outLine(""), outLine("b"))
	fine := linesOf(inputLine(0, "a", 1), constLine("a", 1, 0), twoLine("a", "x", "+", "y"), notLine("a", "x"), pickLine("a", "x", "x", "y"), outLine("x"))
	for _, n := range []int{-1, 1, 2} {
		for i := range fine {
			party, width, value, kind := fine[i], fine[i], fine[i], fine[i]
			party.Party, width.Width, value.Value, kind.Kind = n, n, n, 7*n
			if fine[i].Kind != 1 || n == 2 {
				lines = append(lines, party)
			}
			if fine[i].Kind > 2 {
				lines = append(lines, width)
			}
			if fine[i].Kind != 2 || n == 2 {
				lines = append(lines, value)
			}
			lines = append(lines, kind)
		}
	}
	for i := range fine {
		more, less, op := fine[i], fine[i], fine[i]
		more.Parts = append(slices.Clone(more.Parts), "x")
		less.Parts = less.Parts[:max(0, len(less.Parts)-1)]
		op.Op += "+"
		lines = append(lines, more, op)
		if len(fine[i].Parts) > 0 {
			lines = append(lines, less)
		}
	}
	named := outLine("x")
	named.Name = "a"
	return append(lines, named, impl.Line{}, impl.Line{Name: "a"}, impl.Line{Width: 1, Name: "a"})
}

const spareName = "spare"

func spareLine() impl.Line {
	return impl.Line{Kind: spareMark, Name: spareName, Op: spareName, Parts: []string{spareName}, Party: spareMark, Width: spareMark, Value: spareMark}
}

// sparedLines returns a copy of l with marked memory behind the lines and behind the parts of each.
func sparedLines(l []impl.Line) []impl.Line {
	lines := append(slices.Clone(l), spareLine(), spareLine(), spareLine())
	for i := range l {
		parts := append(slices.Clone(l[i].Parts), spareName, spareName, spareName)
		lines[i].Parts = parts[:len(l[i].Parts)]
	}
	return lines[:len(l)]
}

// checkKeptLines fails if lines made by sparedLines from want have changed, or what is behind their lists.
func checkKeptLines(t *testing.T, call string, l []impl.Line, want []impl.Line) {
	t.Helper()
	if !sameLines(l, want) {
		t.Fatalf("%s changed its argument %v to %v", call, want, l)
	}
	for _, line := range l[len(l) : len(l)+3] {
		if !sameLine(line, spareLine()) {
			t.Fatalf("%s wrote behind the lines %v: %v", call, want, line)
		}
	}
	for _, line := range l {
		parts := line.Parts[len(line.Parts) : len(line.Parts)+3]
		if !slices.Equal(parts, []string{spareName, spareName, spareName}) {
			t.Fatalf("%s wrote behind the parts of %v: %v", call, line, parts)
		}
	}
}

// overwriteNames writes to all memory of a list of names, so that what shares it shows.
func overwriteNames(l []string) {
	l = l[:cap(l)]
	for i := range l {
		l[i] = "other"
	}
}

// overwriteLines does so with lines and their parts.
func overwriteLines(l []impl.Line) {
	l = l[:cap(l)]
	for i := range l {
		overwriteNames(l[i].Parts)
	}
	for i := range l {
		l[i] = impl.Line{Kind: -77, Name: "other"}
	}
}

// programResult is what a call returned; only the fields that the function has results for are set.
type programResult struct {
	list    []int
	names   []string
	lines   []impl.Line
	circuit impl.Circuit
	number  int
	text    string
	ok      bool
}

func (r programResult) isZero() bool {
	return len(r.list) == 0 && len(r.names) == 0 && len(r.lines) == 0 && sameCircuit(r.circuit, impl.Circuit{}) && r.number == 0 && r.text == "" && !r.ok
}

func (r programResult) clone() programResult {
	r.list, r.names, r.lines = slices.Clone(r.list), slices.Clone(r.names), cloneLines(r.lines)
	r.circuit.Gates, r.circuit.Outs = slices.Clone(r.circuit.Gates), slices.Clone(r.circuit.Outs)
	return r
}

func (r programResult) overwrite() {
	overwrite(impl.Circuit{Outs: r.list})
	overwrite(r.circuit)
	overwriteNames(r.names)
	overwriteLines(r.lines)
}

// fittingNumbers returns an input of a party with as many numbers as the program has, each the highest one that it may be.
func fittingNumbers(l []impl.Line, party int) []int {
	numbers := []int{}
	for _, width := range widthsOfInputs(l, party) {
		numbers = append(numbers, 1<<min(max(width, 0), 10)-1)
	}
	return numbers
}

// nameIn returns the last name that lines give, or a name that they do not give.
func nameIn(l []impl.Line) string {
	name := "none"
	for _, line := range l {
		if line.Kind != 6 && line.Name != "" {
			name = line.Name
		}
	}
	return name
}

// programCalls are the functions that take a program, by name, with other arguments that fit it.
func programCalls() map[string]func(l []impl.Line) programResult {
	list := func(l []int, ok bool) programResult { return programResult{list: l, ok: ok} }
	number := func(n int, ok bool) programResult { return programResult{number: n, ok: ok} }
	return map[string]func(l []impl.Line) programResult{
		"IsProgram": func(l []impl.Line) programResult { return programResult{ok: impl.IsProgram(l)} },
		"ProgramText": func(l []impl.Line) programResult {
			s, ok := impl.ProgramText(l)
			return programResult{text: s, ok: ok}
		},
		"WidthOfName":      func(l []impl.Line) programResult { return number(impl.WidthOfName(l, nameIn(l))) },
		"InputWidths of 0": func(l []impl.Line) programResult { return list(impl.InputWidths(l, 0)) },
		"InputWidths of 1": func(l []impl.Line) programResult { return list(impl.InputWidths(l, 1)) },
		"OutWidths":        func(l []impl.Line) programResult { return list(impl.OutWidths(l)) },
		"ValuesIn": func(l []impl.Line) programResult {
			return list(impl.ValuesIn(l, fittingNumbers(l, 0), fittingNumbers(l, 1)))
		},
		"RunProgram": func(l []impl.Line) programResult {
			return list(impl.RunProgram(l, fittingNumbers(l, 0), fittingNumbers(l, 1)))
		},
		"ValuesIn of none":  func(l []impl.Line) programResult { return list(impl.ValuesIn(l, nil, nil)) },
		"RunProgram of one": func(l []impl.Line) programResult { return list(impl.RunProgram(l, []int{0}, []int{0})) },
		"NeededNames": func(l []impl.Line) programResult {
			names, ok := impl.NeededNames(l)
			return programResult{names: names, ok: ok}
		},
		"TrimProgram": func(l []impl.Line) programResult {
			lines, ok := impl.TrimProgram(l)
			return programResult{lines: lines, ok: ok}
		},
		"CountOps": func(l []impl.Line) programResult { return list(impl.CountOps(l)) },
	}
}

func TestNoProgramsGiveZeroValues(t *testing.T) {
	for name, call := range programCalls() {
		for _, l := range noPrograms() {
			arg := sparedLines(l)
			if r := call(arg); !r.isZero() {
				t.Errorf("%s accepts %v: %v", name, l, r)
			}
			checkKeptLines(t, name, arg, l)
		}
	}
}

// The first result is written over between two calls, so that memory kept or shared shows.
func TestProgramsAreNeitherChangedNorShared(t *testing.T) {
	for name, call := range programCalls() {
		for _, l := range samplePrograms() {
			arg := sparedLines(l)
			first := call(arg)
			inputs := [2]int{len(widthsOfInputs(l, 0)), len(widthsOfInputs(l, 1))}
			fits := name != "ValuesIn of none" && name != "RunProgram of one" && (name != "WidthOfName" || nameIn(l) != "none") ||
				name == "ValuesIn of none" && inputs == [2]int{0, 0} || name == "RunProgram of one" && inputs == [2]int{1, 1}
			if first.ok != fits || !fits && !first.isZero() {
				t.Errorf("%s(%v) = %v", name, l, first)
			}
			want := first.clone()
			first.overwrite()
			checkKeptLines(t, name, arg, l)
			if second := call(arg).clone(); !reflect.DeepEqual(second, want) {
				t.Errorf("%s(%v), again, = %v, want %v", name, l, second, want)
			}
		}
	}
}

func TestProgramInputsAreNeitherChangedNorShared(t *testing.T) {
	for _, l := range samplePrograms() {
		eachNumbers(l, func(a []int, b []int) {
			x, y := spared(a), spared(b)
			values, _ := impl.ValuesIn(l, x, y)
			results, _ := impl.RunProgram(l, x, y)
			checkNew(t, "ValuesIn", values, x, y)
			checkNew(t, "RunProgram", results, x, y)
			checkKept(t, "ValuesIn and RunProgram", x, a)
			checkKept(t, "ValuesIn and RunProgram", y, b)
		})
	}
}

func TestParsedProgramsAreNew(t *testing.T) {
	for _, l := range samplePrograms() {
		s := programTextByHand(l)
		first, _ := impl.ParseProgram(s)
		checkPartsAreApart(t, first)
		overwriteLines(first)
		if second, ok := impl.ParseProgram(s); !ok || !sameLines(second, l) {
			t.Errorf("ParseProgram(%q), again, = %v, %v", s, second, ok)
		}
		trimmed, _ := impl.TrimProgram(l)
		checkPartsAreApart(t, trimmed)
	}
}

// checkPartsAreApart fails if the parts of two lines share memory.
func checkPartsAreApart(t *testing.T, l []impl.Line) {
	t.Helper()
	for i := range l {
		before := cloneLines(l)
		parts := l[i].Parts[:cap(l[i].Parts)]
		kept := slices.Clone(parts)
		overwriteNames(parts)
		for j := range l {
			if j != i && !sameLine(l[j], before[j]) {
				t.Errorf("lines %d and %d of %v share memory", i, j, before)
			}
		}
		copy(parts, kept)
	}
}
