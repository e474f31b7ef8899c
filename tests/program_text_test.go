package tests

import (
	"fmt"
	"regexp"
	"slices"
	"strconv"
	"strings"
	"testing"

	"loop.example/g00877/impl"
)

func programTextByHand(l []impl.Line) string {
	s := ""
	for _, line := range l {
		parts := append(slices.Clone(line.Parts), "", "", "")
		s += map[int]string{
			1: fmt.Sprintln("input", line.Party, line.Name, line.Width), 2: fmt.Sprintln("const", line.Name, line.Width, line.Value),
			3: fmt.Sprintln("let", line.Name, parts[0], line.Op, parts[1]), 4: fmt.Sprintln("not", line.Name, parts[0]),
			5: fmt.Sprintln("pick", line.Name, parts[0], parts[1], parts[2]), 6: fmt.Sprintln("out", parts[0]),
		}[line.Kind]
	}
	return s
}

var lineTexts = regexp.MustCompile(`(?:input (0|1) ([a-z]+) ([1-9][0-9]?)|const ([a-z]+) ([1-9][0-9]?) (0|[1-9][0-9]{0,3})|` +
	`let ([a-z]+) ([a-z]+) ([-+*<=&|^]) ([a-z]+)|not ([a-z]+) ([a-z]+)|pick ([a-z]+) ([a-z]+) ([a-z]+) ([a-z]+)|out ([a-z]+))\n`)

// programParsedByHand reads a text by the pattern of all lines, and does without the program under test.
func programParsedByHand(s string) ([]impl.Line, bool) {
	var l []impl.Line
	whole := ""
	for _, m := range lineTexts.FindAllStringSubmatch(s, -1) {
		whole += m[0]
		number := func(i int) int {
			n, _ := strconv.Atoi(m[i])
			return n
		}
		l = append(l, map[byte]impl.Line{
			'i': inputLine(number(1), m[2], number(3)), 'c': constLine(m[4], number(5), number(6)), 'l': twoLine(m[7], m[8], m[9], m[10]),
			'n': notLine(m[11], m[12]), 'p': pickLine(m[13], m[14], m[15], m[16]), 'o': outLine(m[17]),
		}[m[0][0]])
	}
	if _, ok := programByHand(l); !ok || whole != s {
		return nil, false
	}
	return l, true
}

func checkParseProgram(t *testing.T, s string) {
	t.Helper()
	want, fine := programParsedByHand(s)
	if l, ok := impl.ParseProgram(s); ok != fine || !sameLines(l, want) {
		t.Fatalf("ParseProgram(%q) = %v, %v, want %v, %v", s, l, ok, want, fine)
	}
}

func TestProgramTextsAreReadBack(t *testing.T) {
	for _, l := range samplePrograms() {
		s, ok := impl.ProgramText(l)
		if want := programTextByHand(l); !ok || s != want {
			t.Fatalf("ProgramText(%v) = %q, %v, want %q", l, s, ok, want)
		}
		if back, ok := impl.ParseProgram(s); !ok || !sameLines(back, l) {
			t.Fatalf("ParseProgram(%q) = %v, %v, want %v", s, back, ok, l)
		}
	}
	for _, l := range noPrograms() {
		checkParseProgram(t, programTextByHand(l))
	}
}

func TestProgramTextValues(t *testing.T) {
	for s, l := range map[string][]impl.Line{
		"": nil,
		"input 0 x 3\ninput 1 y 3\nlet z x + y\nout z\n": exampleProgram(),
		"const abcdef 10 1023\n":                         {constLine("abcdef", 10, 1023)},
		"const out 1 0\nout out\nout out\n":              {constLine("out", 1, 0), outLine("out"), outLine("out")},
		"input 1 input 1\nnot not input\npick pick not input not\nlet let pick ^ not\n": {
			inputLine(1, "input", 1), notLine("not", "input"), pickLine("pick", "not", "input", "not"), twoLine("let", "pick", "^", "not")},
	} {
		if text, ok := impl.ProgramText(l); !ok || text != s {
			t.Errorf("ProgramText(%v) = %q, %v, want %q", l, text, ok, s)
		}
		if back, ok := impl.ParseProgram(s); !ok || !sameLines(back, l) {
			t.Errorf("ParseProgram(%q) = %v, %v, want %v", s, back, ok, l)
		}
	}
}

func TestTextsOfNoProgram(t *testing.T) {
	for _, s := range []string{
		"\n", " ", " \n", "\n\n", "\r\n", "out", "out\n", "out \n", "input", "input\n", "x", "x\n", "\x00", "\xff\n", "\ufeff",
		"const x 1 0", "const x 1 0\n\n", "\nconst x 1 0\n", "const x 1 0\n\nout x\n", "const x 1 0\r\n", "const x 1 0\nout x", "const x 1 0 out x\n", "const x 1 0out x\n",
		" const x 1 0\n", "const x 1 0 \n", "const  x 1 0\n", "const x  1 0\n", "const x 1  0\n", "const\tx 1 0\n", "const x\t1 0\n", "const x 1\u00a00\n", "const x 1\n", "const x 1 0 0\n",
		"const x +1 0\n", "const x 1 +0\n", "const x -1 0\n", "const x 1 -0\n", "const x 1 -1\n", "const x 01 0\n", "const x 1 00\n", "const x 1 01\n", "const x 0x1 0\n", "const x 1_0 0\n",
		"const x 1.0 0\n", "const x a 0\n", "const x 1 a\n", "const x  0\n", "const x 0 0\n", "const x 11 0\n", "const x 1 2\n", "const x 10 1024\n", "const x 99999999999999999999 0\n",
		"const x 10 18446744073709551616\n", "const x 18446744073709551617 1\n", "const x \u0661 0\n", "const X 1 0\n", "const x1 1 0\n", "const xxxxxxx 1 0\n", "const  1 0\n", "const 1 0\n",
		"Const x 1 0\n", "CONST x 1 0\n", "constx 1 0\n", "consts x 1 0\n", "con x 1 0\n", "2 x 1 0\n", "x 1 0\n", "const x 1 0\nconst x 1 0\n",
		"input 0 x\n", "input x 1\n", "input 0 x 1 1\n", "input 2 x 1\n", "input -1 x 1\n", "input +0 x 1\n", "input -0 x 1\n", "input 00 x 1\n", "input 01 x 1\n", "input x 0 1\n",
		"input 0 x 0\n", "input 0 x 11\n", "input 0 x +1\n", "input 0 x 01\n", "input 0 x 1 \n", "input 0 x a\n", "input a x 1\n", "input 0 X 1\n", "input  x 1\n", "input 0  1\n",
		"const x 1 0\nlet z x +x\n", "const x 1 0\nlet z x+ x\n", "const x 1 0\nlet z x+x\n", "const x 1 0\nlet z + x x\n", "const x 1 0\nlet z x x +\n", "const x 1 0\nlet z x / x\n",
		"const x 1 0\nlet z x  x\n", "const x 1 0\nlet z x + \n", "const x 1 0\nlet z x +\n", "const x 1 0\nlet z x + x x\n", "const x 1 0\nlet z = x + x\n", "const x 1 0\nlet z x + y\n",
		"const x 1 0\nlet x x + x\n", "const x 1 0\nlet z x ++ x\n", "const x 1 0\nlet z z + x\n", "const x 6 0\nlet z x * x\n", "const x 1 0\nconst y 2 0\nlet z x + y\n",
		"const x 1 0\nnot z\n", "const x 1 0\nnot z x x\n", "const x 1 0\nnot z y\n", "const x 1 0\nnot  x\n", "const x 1 0\nnot z  x\n", "not z x\nconst x 1 0\n", "const x 1 0\nnot z ~x\n",
		"const x 1 0\npick z x x\n", "const x 1 0\npick z x x x x\n", "const x 1 0\npick z x x y\n", "const x 2 0\npick z x x x\n", "const x 1 0\npick z x x \n", "const x 1 0\npick  x x x\n",
		"const x 1 0\nout\n", "const x 1 0\nout \n", "const x 1 0\nout x x\n", "const x 1 0\nout y\n", "const x 1 0\nout 0\n", "out x\nconst x 1 0\n", "const x 1 0\nout x \n", "const x 1 0\nOut x\n",
		"const x 1 0\nouts x\n", "const x 1 0\n#\n", "const x 1 0\n \n", "const x 1 0\nout x\x00\n", "const x 1 0\nout \xff\n",
	} {
		if _, fine := programParsedByHand(s); fine {
			t.Errorf("%q is read by hand", s)
		}
		if l, ok := impl.ParseProgram(s); ok || len(l) != 0 {
			t.Errorf("ParseProgram(%q) = %v, %v", s, l, ok)
		}
	}
}

func TestProgramTextsAtTheLimits(t *testing.T) {
	full, wide := programTextByHand(fullProgram()), programTextByHand(wideProgram())
	for s, fine := range map[string]bool{
		full: true, wide: true, full + "const new 1 0\n": false, wide + "input 0 new 1\n": false, wide + "input 1 new 1\n": false, wide + strings.Repeat("out t\n", 6): true,
		wide + strings.Repeat("out t\n", 7): false, "const x 1 0\n" + strings.Repeat("out x\n", 10): true, "const x 1 0\n" + strings.Repeat("out x\n", 11): false,
		"const x 1 0\n" + strings.Repeat("out x\n", 100000): false, strings.Repeat("\n", 100000): false, strings.Repeat(" ", 100000): false,
		"const " + strings.Repeat("x", 100000) + " 1 0\n": false, "const x 1 " + strings.Repeat("0", 100000) + "\n": false, "const x " + strings.Repeat("9", 100000) + " 0\n": false,
	} {
		l, ok := impl.ParseProgram(s)
		if ok != fine || ok && programTextByHand(l) != s || !ok && len(l) != 0 {
			t.Errorf("ParseProgram(%.60q) = %v, %v", s, l, ok)
		}
	}
}

// Each text that differs from one of a program in a byte is that of another program or refused.
func TestProgramTextsWithOneByteChanged(t *testing.T) {
	programs := [][]impl.Line{nil, exampleProgram(), wideProgram(), sampleProgram(12, 9, 1), sampleProgram(20, 12, 2),
		{constLine("a", 1, 0), inputLine(1, "b", 1), pickLine("p", "a", "b", "a"), notLine("n", "p"), twoLine("l", "p", "-", "n"), outLine("l")}}
	for _, l := range programs {
		eachNearText(programTextByHand(l), " \n\r\t+-*=01239abxyA\x00", func(s string) { checkParseProgram(t, s) })
	}
}
