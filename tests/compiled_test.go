package tests

import (
	"slices"
	"strings"
	"testing"

	"loop.example/g00877/impl"
)

// The gates of the document, with wires named by what they carry: a and b are the bits of the parts,
// c is the carry, the borrow or the choice, and s is what the gates are for.
const (
	addFirstByHand      = "s=a^b;c=a&b"
	addNextByHand       = "p=a^c;q=b^c;s=p^b;r=p&q;c=r^c"
	subtractFirstByHand = "s=a^b;n=!a;c=n&b"
	subtractNextByHand  = "p=a^c;q=b^c;s=p^b;n=!p;r=n&q;c=r^c"
	sameByHand          = "d=a^b;s=!d"
	orByHand            = "p=a^b;q=a&b;s=p^q"
	chooseByHand        = "d=a^b;e=c&d;s=e^b"
	oneByHand           = "o=1;z=!o"
)

// handCompiler makes gates from such texts; it does without the program under test.
type handCompiler struct {
	circuit impl.Circuit
	wires   map[string][]int
	byLine  [][]int
	makers  []int
	line    int
}

// run makes the gates of a text, and names their wires.
func (h *handCompiler) run(text string, names map[string]int) {
	for _, step := range strings.Split(text, ";") {
		gate := impl.Gate{}
		switch {
		case step[2] == '1':
			gate = oneGate()
		case step[2] == '!':
			gate = notGate(names[step[3:]])
		case step[3] == '^':
			gate = xorGate(names[step[2:3]], names[step[4:]])
		case step[3] == '&':
			gate = andGate(names[step[2:3]], names[step[4:]])
		}
		names[step[:1]] = wiresOf(h.circuit)
		h.circuit.Gates = append(h.circuit.Gates, gate)
		h.makers = append(h.makers, h.line)
	}
}

// ripple runs one text with the lowest bits and another one with the further ones, and returns the wires s and the last c.
func (h *handCompiler) ripple(first string, next string, a []int, b []int, c int) ([]int, int) {
	names, wires := map[string]int{"c": c}, []int{}
	for i := range a {
		names["a"], names["b"] = a[i], b[i]
		text := next
		if i == 0 {
			text = first
		}
		h.run(text, names)
		wires = append(wires, names["s"])
	}
	return wires, names["c"]
}

// product has the bits of the sum by their places, so that it need not take the sum apart.
func (h *handCompiler) product(a []int, b []int) []int {
	w := len(a)
	sum, zero := make([]int, 2*w), map[string]int{}
	for i := range b {
		if i == 1 {
			h.run(oneByHand, zero)
			sum[w] = zero["z"]
		}
		row, _ := h.ripple("s=a&b", "s=a&b", a, slices.Repeat(b[i:i+1], w), 0)
		if i == 0 {
			copy(sum, row)
			continue
		}
		added, carry := h.ripple(addFirstByHand, addNextByHand, sum[i:i+w], row, 0)
		copy(sum[i:], added)
		sum[i+w] = carry
	}
	if w == 1 {
		h.run(oneByHand, zero)
		sum[1] = zero["z"]
	}
	return sum
}

func (h *handCompiler) two(op string, a []int, b []int) []int {
	var wires []int
	carry := 0
	switch op {
	case "+":
		wires, _ = h.ripple(addFirstByHand, addNextByHand, a, b, 0)
	case "-":
		wires, _ = h.ripple(subtractFirstByHand, subtractNextByHand, a, b, 0)
	case "<":
		_, carry = h.ripple(subtractFirstByHand, subtractNextByHand, a, b, 0)
		wires = []int{carry}
	case "=":
		same, _ := h.ripple(sameByHand, sameByHand, a, b, 0)
		for i := range same[1:] {
			same[i+1] = h.one("s=a&b", same[i], same[i+1])
		}
		wires = same[len(same)-1:]
	case "*":
		wires = h.product(a, b)
	case "|":
		wires, _ = h.ripple(orByHand, orByHand, a, b, 0)
	default:
		wires, _ = h.ripple("s=a"+op+"b", "s=a"+op+"b", a, b, 0)
	}
	return wires
}

// one returns the wire s that a text makes of two wires.
func (h *handCompiler) one(text string, a int, b int) int {
	names := map[string]int{"a": a, "b": b}
	h.run(text, names)
	return names["s"]
}

func (h *handCompiler) add(line impl.Line, inputs *[2]int) []int {
	wires := []int{}
	switch line.Kind {
	case 1:
		for range line.Width {
			wires = append(wires, inputs[line.Party])
			inputs[line.Party]++
		}
	case 2:
		names := map[string]int{}
		h.run(oneByHand, names)
		for i := range line.Width {
			wires = append(wires, names[[]string{"z", "o"}[line.Value/(1<<i)%2]])
		}
	case 3:
		wires = h.two(line.Op, h.wires[line.Parts[0]], h.wires[line.Parts[1]])
	case 4:
		part := h.wires[line.Parts[0]]
		wires, _ = h.ripple("s=!a", "s=!a", part, part, 0)
	case 5:
		wires, _ = h.ripple(chooseByHand, chooseByHand, h.wires[line.Parts[1]], h.wires[line.Parts[2]], h.wires[line.Parts[0]][0])
	case 6:
		wires = h.wires[line.Parts[0]]
	}
	return wires
}

// compiledByHand returns what there is to know of a program's circuit, which may not be valid.
func compiledByHand(l []impl.Line) handCompiler {
	h := handCompiler{wires: map[string][]int{}}
	for _, width := range widthsOfInputs(l, 0) {
		h.circuit.In0 += width
	}
	for _, width := range widthsOfInputs(l, 1) {
		h.circuit.In1 += width
	}
	inputs := [2]int{0, h.circuit.In0}
	for i, line := range l {
		h.line = i
		wires := h.add(line, &inputs)
		h.byLine = append(h.byLine, wires)
		if line.Kind == 6 {
			h.circuit.Outs = append(h.circuit.Outs, wires...)
		} else {
			h.wires[line.Name] = wires
		}
	}
	return h
}

func programOf(t *testing.T, s string) []impl.Line {
	t.Helper()
	l, ok := impl.ParseProgram(s)
	if !ok {
		t.Fatalf("no program: %q", s)
	}
	return l
}

// compilableSamples are the programs among the samples whose circuit is valid, and more of them.
func compilableSamples() [][]impl.Line {
	programs := samplePrograms()
	for seed := range 150 {
		programs = append(programs, sampleProgram(1+seed%16, 10, seed+3000))
	}
	for _, op := range opsInOrder {
		for _, width := range []int{1, 2, 5, 10} {
			programs = append(programs, opProgram(op, width)...)
		}
	}
	for _, width := range []int{1, 2, 10} {
		programs = append(programs, notProgram(width), pickProgram(width), constProgram(width, 1<<width/3))
	}
	programs = append(programs, edgePrograms()...)
	return slices.DeleteFunc(programs, func(l []impl.Line) bool { return !validByHand(compiledByHand(l).circuit) })
}

// opProgram returns programs of one operation on numbers of a width; none if that is too wide.
func opProgram(op string, width int) [][]impl.Line {
	if op == "*" && width > 5 {
		return nil
	}
	return [][]impl.Line{
		linesOf(inputLine(0, "x", width), inputLine(1, "y", width), twoLine("r", "x", op, "y"), outLine("r")),
		linesOf(inputLine(1, "y", width), inputLine(0, "x", width), twoLine("r", "y", op, "x"), outLine("r")),
		linesOf(inputLine(0, "x", width), twoLine("r", "x", op, "x"), outLine("r")),
	}
}

func notProgram(width int) []impl.Line {
	return linesOf(inputLine(1, "x", width), notLine("r", "x"), outLine("r"))
}

func pickProgram(width int) []impl.Line {
	return linesOf(inputLine(0, "x", width), inputLine(1, "y", width), inputLine(1, "s", 1), pickLine("r", "s", "x", "y"), outLine("r"))
}

func constProgram(width int, value int) []impl.Line {
	return linesOf(constLine("k", width, value), outLine("k"))
}

// edgePrograms lack lines, results, inputs or gates, or have results that are inputs, constants or given twice, or meet a limit exactly.
func edgePrograms() [][]impl.Line {
	x, y, k, sum := inputLine(0, "x", 3), inputLine(1, "y", 3), constLine("k", 3, 5), twoLine("r", "x", "+", "y")
	return [][]impl.Line{
		nil, {x, y, sum}, {x}, {y}, {x, y}, {k}, {k, outLine("k")}, {k, outLine("k"), outLine("k")}, {x, outLine("x")}, {y, outLine("y")},
		{y, outLine("y"), x, outLine("x"), outLine("y")}, {x, y, sum, outLine("r"), outLine("r")}, {x, y, outLine("x"), k, sum, outLine("k"), outLine("r")},
		{k, notLine("n", "k"), twoLine("e", "n", "<", "k"), outLine("e")}, mostGates(), mostOuts(),
	}
}

// mostGates has a circuit of 300 gates.
func mostGates() []impl.Line {
	l := linesOf(inputLine(0, "x", 5), inputLine(1, "y", 5), twoLine("p", "x", "*", "y"), twoLine("q", "y", "*", "x"))
	for _, name := range []string{"a", "b", "c", "d", "e", "f", "g"} {
		l = append(l, notLine(name, "p"))
	}
	return append(l, outLine("g"), outLine("q"))
}

// mostOuts has a circuit of 40 outs.
func mostOuts() []impl.Line {
	l := linesOf(inputLine(1, "x", 10), inputLine(0, "y", 1))
	return append(l, slices.Repeat(linesOf(outLine("x")), 4)...)
}

// noCompilable returns programs whose circuits are not valid.
func noCompilable() [][]impl.Line {
	programs := [][]impl.Line{
		append(mostGates(), notLine("h", "a")), slices.Insert(mostGates(), 2, notLine("h", "x")), append(linesOf(inputLine(0, "i", 1), notLine("j", "i")), mostGates()...),
		append(mostGates(), constLine("k", 1, 1)), append(mostOuts(), outLine("y")), append(mostOuts(), outLine("x")), append(linesOf(constLine("k", 1, 0), outLine("k")), mostOuts()...),
		append(linesOf(constLine("k", 10, 0)), slices.Repeat(linesOf(outLine("k")), 5)...), wideProgram(),
	}
	l := linesOf(inputLine(0, "x", 5), inputLine(1, "y", 5))
	for _, name := range sampleNames[10 : 37-10] {
		if name != "x" && name != "y" {
			l = append(l, twoLine(name, "x", "*", "y"))
		}
	}
	return append(programs, l, append(l, outLine("x")))
}
