package tests

import (
	"math"
	"slices"
	"strings"
	"testing"

	"loop.example/g00877/impl"
)

// checkIsProgram checks that lines are a program or none, as they are by hand.
func checkIsProgram(t *testing.T, l []impl.Line) {
	t.Helper()
	if _, want := programByHand(l); impl.IsProgram(l) != want {
		t.Fatalf("IsProgram(%v) = %v, want %v", l, !want, want)
	}
}

func checkProgramIs(t *testing.T, want bool, l ...impl.Line) {
	t.Helper()
	if impl.IsProgram(l) != want {
		t.Errorf("IsProgram(%v) = %v, want %v", l, !want, want)
	}
	checkIsProgram(t, l)
}

func TestProgramsAre(t *testing.T) {
	for _, l := range samplePrograms() {
		if !impl.IsProgram(l) {
			t.Errorf("IsProgram(%v) = false", l)
		}
	}
	checkProgramIs(t, true)
	checkProgramIs(t, true, exampleProgram()...)
	checkProgramIs(t, true, impl.Line{Kind: impl.LnConst, Name: "a", Parts: []string{}, Width: 1})
	for _, l := range noPrograms() {
		if impl.IsProgram(l) {
			t.Errorf("IsProgram(%v) = true", l)
		}
	}
}

func TestKindsOfLines(t *testing.T) {
	kinds := []int{impl.LnInput, impl.LnConst, impl.LnTwo, impl.LnNot, impl.LnPick, impl.LnOut}
	if !slices.Equal(kinds, []int{1, 2, 3, 4, 5, 6}) || impl.MaxProgram != 30 || impl.MaxNumber != 10 {
		t.Error("constants", kinds, impl.MaxProgram, impl.MaxNumber)
	}
}

func TestNumbersOfLines(t *testing.T) {
	for lines, want := range map[int]bool{0: true, 1: true, 29: true, 30: true, 31: false, 60: false} {
		l := []impl.Line{}
		for i := range lines {
			l = append(l, constLine(strings.Repeat("a", i%6)+string(rune('a'+i/6)), 1, 0))
		}
		checkProgramIs(t, want, l...)
	}
	for outs, want := range map[int]bool{0: true, 1: true, 9: true, 10: true, 11: false, 29: false} {
		checkProgramIs(t, want, append(linesOf(constLine("a", 1, 1)), slices.Repeat(linesOf(outLine("a")), outs)...)...)
	}
	checkProgramIs(t, true, fullProgram()...)
	checkProgramIs(t, false, append(fullProgram(), constLine("new", 1, 0))...)
	checkProgramIs(t, false, append(fullProgram()[:29:29], outLine("x"), constLine("new", 1, 0))...)
}

func TestNamesOfLines(t *testing.T) {
	for _, name := range []string{"a", "z", "m", "ab", "zzzzzz", "abcdef", "input", "const", "let", "not", "pick", "out"} {
		checkProgramIs(t, true, constLine(name, 1, 1))
		checkProgramIs(t, true, inputLine(0, name, 1), twoLine("q", name, "+", name), notLine("r", name), pickLine("s", name, name, name), outLine(name))
		checkProgramIs(t, true, inputLine(0, "q", 1), twoLine(name, "q", "+", "q"))
		checkProgramIs(t, true, inputLine(0, "q", 1), notLine(name, "q"))
		checkProgramIs(t, true, inputLine(0, "q", 1), pickLine(name, "q", "q", "q"))
	}
	for _, name := range []string{
		"", "abcdefg", "A", "Z", "aB", "a1", "1", "0", "a b", " ", " a", "a ", "a\n", "\na", "-", "+", "a-b", "_", "a_", "`", "{", "@", "[", "ä", "\x00", "a\x00", "\xff",
		"abcde\xff", strings.Repeat("a", 1000), "aaaaaa ", "\u0430",
	} {
		checkProgramIs(t, false, inputLine(0, name, 1))
		checkProgramIs(t, false, constLine(name, 1, 1))
		checkProgramIs(t, false, inputLine(0, "q", 1), twoLine(name, "q", "+", "q"))
		checkProgramIs(t, false, inputLine(0, "q", 1), notLine(name, "q"))
		checkProgramIs(t, false, inputLine(0, "q", 1), pickLine(name, "q", "q", "q"))
		checkProgramIs(t, false, inputLine(0, "q", 1), twoLine("r", "q", "+", name))
		checkProgramIs(t, false, inputLine(0, "q", 1), outLine(name))
	}
}

func TestNamesStandBefore(t *testing.T) {
	x, y := inputLine(0, "x", 1), constLine("y", 1, 0)
	checkProgramIs(t, true, x, y, twoLine("z", "x", "+", "y"), notLine("n", "z"), pickLine("p", "n", "z", "x"), outLine("p"), outLine("x"), outLine("p"))
	checkProgramIs(t, true, outLineAfter("x", constLine("x", 1, 1))...)
	for _, use := range linesOf(twoLine("z", "x", "+", "y"), twoLine("z", "y", "+", "x"), twoLine("z", "x", "=", "x"), notLine("z", "x"),
		pickLine("z", "x", "y", "y"), pickLine("z", "y", "x", "y"), pickLine("z", "y", "y", "x"), outLine("x")) {
		checkProgramIs(t, true, x, y, use)
		checkProgramIs(t, true, y, x, use)
		checkProgramIs(t, false, y, use)
		checkProgramIs(t, false, y, use, x)
		checkProgramIs(t, false, use, y, x)
		checkProgramIs(t, false, use)
	}
	checkProgramIs(t, false, x, twoLine("z", "x", "+", "z"))
	checkProgramIs(t, false, x, twoLine("z", "z", "+", "z"))
	checkProgramIs(t, false, notLine("z", "z"))
	checkProgramIs(t, false, x, pickLine("z", "z", "z", "z"))
}

// outLineAfter returns the lines and then the result of a name.
func outLineAfter(name string, lines ...impl.Line) []impl.Line {
	return append(lines, outLine(name))
}

func TestNamesGivenTwice(t *testing.T) {
	givers := linesOf(inputLine(0, "x", 1), inputLine(1, "x", 1), constLine("x", 1, 1), twoLine("x", "q", "+", "q"), notLine("x", "q"), pickLine("x", "q", "q", "q"))
	for _, first := range givers {
		for _, second := range givers {
			checkProgramIs(t, false, constLine("q", 1, 0), first, second)
			checkProgramIs(t, false, constLine("q", 1, 0), first, outLine("x"), second)
			second.Name = "y"
			checkProgramIs(t, true, constLine("q", 1, 0), first, second)
		}
	}
	checkProgramIs(t, false, constLine("x", 1, 0), notLine("x", "x"))
	checkProgramIs(t, false, constLine("x", 1, 0), twoLine("x", "x", "&", "x"))
}

var farInts = []int{-1, -2, -10, 31, 32, 63, 64, 65, 1000, 1 << 32, 1<<32 + 1, math.MinInt, math.MinInt + 1, math.MaxInt}

func TestWidthsOfLines(t *testing.T) {
	for width := range 14 {
		checkProgramIs(t, width >= 1 && width <= 10, inputLine(0, "x", width))
		checkProgramIs(t, width >= 1 && width <= 10, inputLine(1, "x", width), outLine("x"))
		checkProgramIs(t, width >= 1 && width <= 10, constLine("x", width, 0))
		for value := -2; value <= 1<<width+1; value++ {
			checkProgramIs(t, width >= 1 && width <= 10 && value >= 0 && value <= 1<<width-1, constLine("x", width, value))
		}
	}
	for _, n := range farInts {
		checkProgramIs(t, false, inputLine(0, "x", n))
		checkProgramIs(t, false, constLine("x", n, 0))
		checkProgramIs(t, n > 0 && n < 1024, constLine("x", 10, n))
		checkProgramIs(t, false, constLine("x", n, n))
		checkProgramIs(t, false, inputLine(n, "x", 1))
		checkProgramIs(t, false, impl.Line{Kind: n, Name: "x", Width: 1}, constLine("y", 1, 0))
	}
	for party := -3; party <= 4; party++ {
		checkProgramIs(t, party == 0 || party == 1, inputLine(party, "x", 1))
	}
}

func TestWidthsOfParts(t *testing.T) {
	for first := 1; first <= 10; first++ {
		for second := 1; second <= 10; second++ {
			x, y := inputLine(0, "x", first), constLine("y", second, 1)
			for _, op := range opsInOrder {
				checkProgramIs(t, first == second && (op != "*" || first <= 5), x, y, twoLine("z", "x", op, "y"))
				checkProgramIs(t, first == second && (op != "*" || first <= 5), y, x, twoLine("z", "y", op, "x"))
			}
			for choice := 1; choice <= 10; choice++ {
				checkProgramIs(t, choice == 1 && first == second, x, y, constLine("s", choice, 1), pickLine("z", "s", "x", "y"))
			}
		}
		x := inputLine(1, "x", first)
		checkProgramIs(t, true, x, notLine("z", "x"), outLine("z"))
		checkProgramIs(t, true, x, twoLine("z", "x", "<", "x"), pickLine("p", "z", "x", "x"), twoLine("e", "z", "=", "z"), pickLine("q", "e", "z", "e"))
	}
	checkProgramIs(t, true, constLine("a", 1, 1), twoLine("b", "a", "*", "a"), twoLine("c", "b", "*", "b"), twoLine("d", "c", "*", "c"))
	checkProgramIs(t, false, constLine("a", 1, 1), twoLine("b", "a", "*", "a"), twoLine("c", "b", "*", "b"), twoLine("d", "c", "*", "c"), twoLine("e", "d", "*", "d"))
	checkProgramIs(t, false, constLine("a", 6, 1), twoLine("e", "a", "*", "a"), twoLine("f", "e", "<", "e"), outLine("f"))
	checkProgramIs(t, false, constLine("a", 2, 1), constLine("b", 3, 1), twoLine("e", "a", "<", "b"), outLine("e"))
}

func TestBitsOfParties(t *testing.T) {
	for party := range 2 {
		full := linesOf(inputLine(party, "a", 10), inputLine(party, "b", 10))
		checkProgramIs(t, true, full...)
		checkProgramIs(t, false, append(full, inputLine(party, "c", 1))...)
		checkProgramIs(t, true, append(full, inputLine(1-party, "c", 10), inputLine(1-party, "d", 9), inputLine(1-party, "e", 1))...)
		checkProgramIs(t, false, append(full, inputLine(1-party, "c", 10), inputLine(1-party, "d", 9), inputLine(1-party, "e", 2))...)
		ones := []impl.Line{}
		for _, name := range sampleNames[:21] {
			ones = append(ones, inputLine(party, name, 1))
		}
		checkProgramIs(t, true, ones[:20]...)
		checkProgramIs(t, false, ones...)
	}
	checkProgramIs(t, true, inputLine(0, "a", 10), inputLine(0, "b", 10), constLine("c", 10, 5), notLine("d", "a"))
}

func TestOperationsOfLines(t *testing.T) {
	x := constLine("x", 1, 1)
	for _, op := range opsInOrder {
		checkProgramIs(t, true, x, twoLine("z", "x", op, "x"))
		for _, line := range linesOf(inputLine(0, "z", 1), constLine("z", 1, 0), notLine("z", "x"), pickLine("z", "x", "x", "x"), outLine("x")) {
			checkProgramIs(t, true, x, line)
			line.Op = op
			checkProgramIs(t, false, x, line)
		}
	}
	for _, op := range []string{"", " ", "+ ", " +", "++", "/", "%", ">", "<=", "==", "&&", "||", "!", "~", "x", "not", "\x00", "+\x00", "\u00d7", "−", "add", "0"} {
		checkProgramIs(t, false, x, twoLine("z", "x", op, "x"))
	}
}

// Each field of each line of some programs is changed to each of many values.
func TestEachFieldChanged(t *testing.T) {
	names := []string{"", "a", "x", "z", "input", "abcdefg", "B", "a1", "q", "+"}
	parts := [][]string{nil, {}, {""}, {"a"}, {"x", "y"}, {"x", "x"}, {"x", "", ""}, {"z", "x", "y"}, {"x", "y", "z", "z"}, {"x", "x", "x"}, {"y"}, {"+"}}
	numbers := slices.Concat([]int{0, 1, 2, 3, 4, 5, 6, 7, 8, 9, 10, 11, 15, 16, 1023, 1024}, farInts)
	programs := [][]impl.Line{exampleProgram(), wideProgram(), fullProgram()}
	for seed := range 30 {
		programs = append(programs, sampleProgram(2+seed%29, 40, seed))
	}
	for _, l := range programs {
		for i := range l {
			check := func(change func(line *impl.Line)) {
				m := cloneLines(l)
				change(&m[i])
				checkIsProgram(t, m)
			}
			for _, s := range names {
				check(func(line *impl.Line) { line.Name = s })
			}
			for _, s := range append(opsInOrder, names...) {
				check(func(line *impl.Line) { line.Op = s })
			}
			for _, p := range parts {
				check(func(line *impl.Line) { line.Parts = p })
			}
			for _, n := range numbers {
				check(func(line *impl.Line) { line.Kind = n })
				check(func(line *impl.Line) { line.Party = n })
				check(func(line *impl.Line) { line.Width = n })
				check(func(line *impl.Line) { line.Value = n })
			}
			for j := range l[i].Parts {
				for _, s := range append(slices.Clone(sampleNames), names...) {
					check(func(line *impl.Line) { line.Parts[j] = s })
				}
			}
		}
	}
}

// Lines left out, written twice or exchanged give programs at times, and no programs most of the time.
func TestLinesMoved(t *testing.T) {
	for seed := range 80 {
		l := sampleProgram(3+seed%26, 40, seed)
		for i := range l {
			checkIsProgram(t, slices.Delete(slices.Clone(l), i, i+1))
			for j := range l {
				checkIsProgram(t, slices.Insert(slices.Clone(l), j, l[i]))
				m := slices.Clone(l)
				m[i], m[j] = m[j], m[i]
				checkIsProgram(t, m)
			}
		}
	}
}
