package tests

import (
	"fmt"
	"regexp"
	"slices"
	"strconv"
	"strings"
	"testing"

	"loop.example/g00877/impl"
)

func circuitTextByHand(c impl.Circuit) string {
	s := fmt.Sprintln("circuit", c.In0, c.In1)
	for _, g := range c.Gates {
		switch g.Kind {
		case 0:
			s += fmt.Sprintln("xor", g.A, g.B)
		case 1:
			s += fmt.Sprintln("and", g.A, g.B)
		case 2:
			s += fmt.Sprintln("not", g.A)
		case 3:
			s += "one\n"
		}
	}
	s += "outs"
	for _, wire := range c.Outs {
		s += fmt.Sprint(" ", wire)
	}
	return s + "\n"
}

var circuitTexts = regexp.MustCompile(`\Acircuit N N\n((xor|and) N N\n|not N\n|one\n)*outs( N)*\n\z`)
var plainNumbers = regexp.MustCompile(`\b(0|[1-9][0-9]*)\b`)

// parsedByHand reads a text by the pattern of all texts, and does without the program.
func parsedByHand(s string) (impl.Circuit, bool) {
	if strings.Contains(s, "N") || !circuitTexts.MatchString(plainNumbers.ReplaceAllString(s, "N")) {
		return impl.Circuit{}, false
	}
	c, numbers, valid := impl.Circuit{}, []int{}, true
	for _, line := range strings.Split(strings.TrimSpace(s), "\n") {
		numbers = numbers[:0]
		for _, word := range strings.Fields(line)[1:] {
			n, err := strconv.Atoi(word)
			valid = valid && err == nil
			numbers = append(numbers, n)
		}
		switch line[:3] {
		case "cir":
			c.In0, c.In1 = numbers[0], numbers[1]
		case "xor":
			c.Gates = append(c.Gates, xorGate(numbers[0], numbers[1]))
		case "and":
			c.Gates = append(c.Gates, andGate(numbers[0], numbers[1]))
		case "not":
			c.Gates = append(c.Gates, notGate(numbers[0]))
		case "one":
			c.Gates = append(c.Gates, oneGate())
		default:
			c.Outs = slices.Clone(numbers)
		}
	}
	if !valid || !validByHand(c) {
		return impl.Circuit{}, false
	}
	return c, true
}

func checkParse(t *testing.T, s string) {
	t.Helper()
	want, fine := parsedByHand(s)
	if c, ok := impl.ParseCircuit(s); ok != fine || !sameCircuit(c, want) {
		t.Fatalf("ParseCircuit(%q) = %v, %v, want %v, %v", s, c, ok, want, fine)
	}
}

func TestCircuitTextsAreReadBack(t *testing.T) {
	for _, c := range slices.Concat(sampleCircuits(), allSmallCircuits()) {
		s, ok := impl.CircuitText(c)
		if want := circuitTextByHand(c); !ok || s != want {
			t.Fatalf("CircuitText(%v) = %q, %v, want %q", c, s, ok, want)
		}
		if back, ok := impl.ParseCircuit(s); !ok || !sameCircuit(back, c) {
			t.Fatalf("ParseCircuit(%q) = %v, %v, want %v", s, back, ok, c)
		}
	}
	for _, c := range noCircuits() {
		if s, ok := impl.CircuitText(c); ok || s != "" {
			t.Errorf("CircuitText(%v) = %q, %v", c, s, ok)
		}
		if back, ok := impl.ParseCircuit(circuitTextByHand(c)); ok && circuitTextByHand(back) != circuitTextByHand(c) || !ok && !sameCircuit(back, impl.Circuit{}) {
			t.Errorf("ParseCircuit(%q) = %v, %v", circuitTextByHand(c), back, ok)
		}
		checkParse(t, circuitTextByHand(c))
	}
}

func TestCircuitTextValues(t *testing.T) {
	for s, c := range map[string]impl.Circuit{
		"circuit 0 0\nouts\n":                                   {},
		"circuit 20 20\nouts 39 0 39\n":                         circuitOf(20, 20, nil, 39, 0, 39),
		"circuit 0 0\none\nouts\n":                              circuitOf(0, 0, []impl.Gate{oneGate()}),
		"circuit 2 1\nxor 0 2\nand 3 1\nnot 0\none\nouts 6 5\n": circuitOf(2, 1, []impl.Gate{xorGate(0, 2), andGate(3, 1), notGate(0), oneGate()}, 6, 5),
	} {
		if text, ok := impl.CircuitText(c); !ok || text != s {
			t.Errorf("CircuitText(%v) = %q, %v, want %q", c, text, ok, s)
		}
		if back, ok := impl.ParseCircuit(s); !ok || !sameCircuit(back, c) {
			t.Errorf("ParseCircuit(%q) = %v, %v, want %v", s, back, ok, c)
		}
	}
}

func TestTextsOfNoCircuit(t *testing.T) {
	for _, s := range []string{
		"", "\n", " ", "circuit", "circuit\n", "outs", "outs\n", "circuit 1 1", "circuit 1 1\n", "circuit 1 1\nouts", "circuit 1 1 outs\n",
		"circuit 1 1\nouts\n\n", "\ncircuit 1 1\nouts\n", "circuit 1 1\n\nouts\n", "circuit 1 1\r\nouts\r\n", "circuit 1 1\nouts\r\n",
		" circuit 1 1\nouts\n", "circuit  1 1\nouts\n", "circuit 1  1\nouts\n", "circuit 1 1 \nouts\n", "circuit 1 1\n outs\n",
		"circuit 1 1\nouts \n", "circuit 1 1\nouts 0 \n", "circuit 1 1\nouts  0\n", "circuit\t1 1\nouts\n", "circuit 1 1\nouts 0\t1\n",
		"circuit 1\nouts\n", "circuit\nouts\n", "circuit 1 1 1\nouts\n", "circuit +1 1\nouts\n", "circuit 1 +1\nouts\n", "circuit -0 1\nouts\n",
		"circuit 01 1\nouts\n", "circuit 1 00\nouts\n", "circuit 0x1 1\nouts\n", "circuit 1_0 1\nouts\n", "circuit 1.0 1\nouts\n", "circuit a 1\nouts\n",
		"circuit -1 1\nouts\n", "circuit 1 -1\nouts\n", "circuit 21 1\nouts\n", "circuit 1 21\nouts\n", "circuit 99999999999999999999 1\nouts\n",
		"circuit 18446744073709551617 1\nouts\n", "circuit 9223372036854775807 9223372036854775807\nouts\n",
		"Circuit 1 1\nouts\n", "circuit 1 1\nOuts\n", "circuits 1 1\nouts\n", "circuit 1 1\nout\n", "circuit 1 1\nouts0\n",
		"circuit 1 1\nouts 2\n", "circuit 1 1\nouts -1\n", "circuit 1 1\nouts +0\n", "circuit 1 1\nouts 00\n", "circuit 1 1\nouts 0 x\n", "circuit 0 0\nouts 0\n",
		"circuit 1 1\nxor 0\nouts\n", "circuit 1 1\nxor\nouts\n", "circuit 1 1\nxor 0 1 0\nouts\n", "circuit 1 1\nxor 0 2\nouts\n", "circuit 1 1\nxor 2 0\nouts\n",
		"circuit 1 1\nxor 0 1 \nouts\n", "circuit 1 1\nxor  0 1\nouts\n", "circuit 1 1\n xor 0 1\nouts\n", "circuit 1 1\nxor 0 01\nouts\n", "circuit 1 1\nxor +0 1\nouts\n",
		"circuit 1 1\nand 0\nouts\n", "circuit 1 1\nand 0 1 1\nouts\n", "circuit 1 1\nand 0 -1\nouts\n", "circuit 1 1\nand 0 1 outs\n",
		"circuit 1 1\nnot\nouts\n", "circuit 1 1\nnot 0 0\nouts\n", "circuit 1 1\nnot 0 1\nouts\n", "circuit 1 1\nnot 2\nouts\n", "circuit 1 1\nnot 00\nouts\n",
		"circuit 1 1\none 0\nouts\n", "circuit 1 1\none 0 0\nouts\n", "circuit 1 1\none 1\nouts\n", "circuit 1 1\none \nouts\n", "circuit 1 1\none\none\n",
		"circuit 1 1\nor 0 1\nouts\n", "circuit 1 1\nXOR 0 1\nouts\n", "circuit 1 1\n0 1\nouts\n", "circuit 1 1\n \nouts\n", "circuit 1 1\nnand 0 1\nouts\n",
		"circuit 1 1\nouts\nouts\n", "circuit 1 1\ncircuit 1 1\nouts\n", "circuit 1 1\nouts 0\none\n", "outs\ncircuit 1 1\n", "one\nouts\n",
		"circuit 1 1\nouts\x00\n", "circuit 1 1\nouts \xff\n", "\ufeffcircuit 1 1\nouts\n", "circuit 1 1\nouts \u0660\n", "circuit 1\u00a01\nouts\n",
	} {
		if _, fine := parsedByHand(s); fine {
			t.Errorf("%q is read by hand", s)
		}
		if c, ok := impl.ParseCircuit(s); ok || !sameCircuit(c, impl.Circuit{}) {
			t.Errorf("ParseCircuit(%q) = %v, %v", s, c, ok)
		}
	}
}

func TestTextsAtTheLimits(t *testing.T) {
	gates := func(n int) string { return strings.Repeat("not 0\n", n) }
	outs := func(n int) string { return "outs" + strings.Repeat(" 0", n) + "\n" }
	for s, fine := range map[string]bool{
		"circuit 20 20\n" + gates(300) + outs(40): true, "circuit 20 20\n" + gates(301) + outs(40): false, "circuit 20 20\n" + gates(300) + outs(41): false,
		"circuit 21 20\n" + outs(40): false, "circuit 20 21\n" + outs(40): false, "circuit 1 0\n" + gates(300) + "outs 300\n": true,
		"circuit 1 0\n" + gates(300) + "outs 301\n": false, "circuit 1 0\n" + gates(299) + "not 299\nouts\n": true, "circuit 1 0\n" + gates(299) + "not 300\nouts\n": false,
		"circuit 1 0\n" + gates(50000) + "outs\n": false, "circuit 1 0\n" + outs(50000): false, strings.Repeat("circuit 1 1\n", 5000): false,
		strings.Repeat("\n", 50000): false, strings.Repeat(" ", 50000): false, "circuit 1 " + strings.Repeat("9", 50000) + "\nouts\n": false,
		"circuit " + strings.Repeat("0", 50000) + " 1\nouts\n": false,
	} {
		c, ok := impl.ParseCircuit(s)
		if text := circuitTextByHand(c); ok != fine || ok && text != s || !ok && !sameCircuit(c, impl.Circuit{}) {
			t.Errorf("ParseCircuit(%.60q) = %v, %v", s, c, ok)
		}
	}
}

// Each text that differs from one of a circuit in a byte is that of another circuit or refused.
func TestTextsWithOneByteChanged(t *testing.T) {
	circuits := []impl.Circuit{
		{}, circuitOf(1, 1, nil, 0), circuitOf(1, 1, []impl.Gate{andGate(0, 1), notGate(2)}, 3),
		circuitOf(10, 12, []impl.Gate{xorGate(20, 11), oneGate(), notGate(10), andGate(23, 24)}, 25, 10, 0), sampleCircuit(3, 0, 9, 5, 4),
	}
	for _, c := range circuits {
		eachNearText(circuitTextByHand(c), " \n\r\t+-_.,xo0129N\x00", func(s string) { checkParse(t, s) })
	}
}
