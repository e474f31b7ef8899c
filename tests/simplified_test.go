package tests

import (
	"fmt"
	"slices"
	"strconv"
	"strings"
	"testing"

	"loop.example/g00877/impl"
)

// circuitFrom returns the circuit with a text whose lines are separated by semicolons, without the word circuit.
func circuitFrom(t *testing.T, lines string) impl.Circuit {
	t.Helper()
	c, ok := impl.ParseCircuit("circuit " + strings.ReplaceAll(lines, ";", "\n") + "\n")
	if !ok {
		t.Fatalf("no circuit: %q", lines)
	}
	return c
}

// linesIn is the other way round.
func linesIn(c impl.Circuit) string {
	s, ok := impl.CircuitText(c)
	if !ok {
		return fmt.Sprint(c)
	}
	return strings.ReplaceAll(strings.TrimPrefix(strings.TrimSuffix(s, "\n"), "circuit "), "\n", ";")
}

// constantByRules returns what the rules tell of a gate from what they tell of the wires before it.
func constantByRules(g impl.Gate, before []int) int {
	if g.Kind == 3 {
		return 1
	}
	a, b := before[g.A], before[g.B]
	switch {
	case g.Kind == 0 && g.A == g.B, g.Kind == 1 && (a == 0 || b == 0), g.Kind == 2 && a == 1, g.Kind == 0 && a == b && a >= 0:
		return 0
	case g.Kind == 0 && a+b == 1, g.Kind == 1 && a+b == 2, g.Kind == 2 && a == 0:
		return 1
	}
	return -1
}

func constantsByHand(c impl.Circuit) []int {
	constants := repeated(-1, c.In0+c.In1)
	for _, g := range c.Gates {
		constants = append(constants, constantByRules(g, constants))
	}
	return constants
}

// gateKey is the same text for gates with the same kind and the same wires, in any order.
func gateKey(g impl.Gate) string {
	wires := []int{g.A, g.B}
	slices.Sort(wires)
	return fmt.Sprint(g.Kind, wires)
}

// mergedByHand finds equal gates by their keys.
func mergedByHand(c impl.Circuit) impl.Circuit {
	merged := impl.Circuit{In0: c.In0, In1: c.In1}
	wires, firsts := []int{}, map[string]int{}
	for wire := range c.In0 + c.In1 {
		wires = append(wires, wire)
	}
	for _, g := range c.Gates {
		if g.Kind != 3 {
			g.A = wires[g.A]
		}
		if g.Kind < 2 {
			g.B = wires[g.B]
		}
		if _, is := firsts[gateKey(g)]; !is {
			firsts[gateKey(g)] = len(wires)
		}
		wires = append(wires, firsts[gateKey(g)])
		merged.Gates = append(merged.Gates, g)
	}
	for _, wire := range c.Outs {
		merged.Outs = append(merged.Outs, wires[wire])
	}
	return merged
}

// droppedByHand takes one gate out at a time, from the last one on.
func droppedByHand(c impl.Circuit) impl.Circuit {
	used := make([]bool, wiresOf(c))
	for _, wire := range c.Outs {
		markUsed(c, wire, used)
	}
	d := circuitOf(c.In0, c.In1, slices.Clone(c.Gates), slices.Clone(c.Outs)...)
	for wire := wiresOf(c) - 1; wire >= c.In0+c.In1; wire-- {
		if !used[wire] {
			withoutGate(&d, wire)
		}
	}
	return d
}

// withoutGate takes a gate out that no other one needs.
func withoutGate(c *impl.Circuit, wire int) {
	i := wire - c.In0 - c.In1
	c.Gates = slices.Delete(c.Gates, i, i+1)
	for k := range c.Gates {
		c.Gates[k].A -= oneIf(c.Gates[k].A > wire)
		c.Gates[k].B -= oneIf(c.Gates[k].B > wire)
	}
	for k := range c.Outs {
		c.Outs[k] -= oneIf(c.Outs[k] > wire)
	}
}

// handSimplifier has a text for what each wire becomes: F, T, w and a wire, or this behind !.
type handSimplifier struct {
	circuit impl.Circuit
	made    map[string]int
}

func oppositeByHand(x string) string {
	switch {
	case x == "F":
		return "T"
	case x == "T":
		return "F"
	case strings.HasPrefix(x, "!"):
		return x[1:]
	}
	return "!" + x
}

func (h *handSimplifier) gate(g impl.Gate) string {
	key := gateKey(g)
	if _, is := h.made[key]; !is {
		h.made[key] = wiresOf(h.circuit)
		h.circuit.Gates = append(h.circuit.Gates, g)
	}
	return "w" + strconv.Itoa(h.made[key])
}

// wire makes gates for what is no wire.
func (h *handSimplifier) wire(x string) int {
	switch {
	case x == "T":
		x = h.gate(oneGate())
	case x == "F":
		x = h.gate(notGate(h.wire("T")))
	case x[0] == '!':
		x = h.gate(notGate(h.wire(x[1:])))
	}
	wire, _ := strconv.Atoi(x[1:])
	return wire
}

func (h *handSimplifier) xor(x string, y string) string {
	switch {
	case x == y:
		return "F"
	case x == oppositeByHand(y):
		return "T"
	case x == "F":
		return y
	case x == "T":
		return oppositeByHand(y)
	case y == "F" || y == "T":
		return h.xor(y, x)
	case x[0] == '!':
		return oppositeByHand(h.xor(x[1:], y))
	case y[0] == '!':
		return oppositeByHand(h.xor(x, y[1:]))
	}
	return h.gate(xorGate(h.wire(x), h.wire(y)))
}

func (h *handSimplifier) and(x string, y string) string {
	switch {
	case x == "F" || y == "F" || x == oppositeByHand(y):
		return "F"
	case x == "T":
		return y
	case y == "T" || x == y:
		return x
	}
	a := h.wire(x)
	return h.gate(andGate(a, h.wire(y)))
}

// simplifiedByHand returns the circuits before and after dead gates are dropped; both may have too many gates.
func simplifiedByHand(c impl.Circuit) (impl.Circuit, impl.Circuit) {
	h := handSimplifier{circuit: impl.Circuit{In0: c.In0, In1: c.In1}, made: map[string]int{}}
	signals := []string{}
	for wire := range c.In0 + c.In1 {
		signals = append(signals, "w"+strconv.Itoa(wire))
	}
	for _, g := range c.Gates {
		signal := "T"
		switch g.Kind {
		case 0:
			signal = h.xor(signals[g.A], signals[g.B])
		case 1:
			signal = h.and(signals[g.A], signals[g.B])
		case 2:
			signal = oppositeByHand(signals[g.A])
		}
		signals = append(signals, signal)
	}
	for _, wire := range c.Outs {
		h.circuit.Outs = append(h.circuit.Outs, h.wire(signals[wire]))
	}
	return h.circuit, droppedByHand(h.circuit)
}

// turnedSteps returns a circuit of one gate GtNot and two gates for each step, of which a simplified one has one and three.
func turnedSteps(steps int) impl.Circuit {
	c := circuitOf(1, 1, []impl.Gate{notGate(0)})
	last := 1
	for range steps {
		c.Gates = append(c.Gates, xorGate(2, last), andGate(wiresOf(c), 2))
		last = wiresOf(c) - 1
	}
	return c
}

// simplifiable are circuits in which wires are constant, turned or equal, and gates are dead.
func simplifiable() []impl.Circuit {
	circuits := slices.Concat(sampleCircuits(), allSmallCircuits())
	for seed := range 1500 {
		circuits = append(circuits, sampleCircuit(seed%4, seed/4%3, seed%25, seed%7, seed+7000))
	}
	for seed := range 40 {
		circuits = append(circuits, sampleCircuit(5, 5, 30+seed, 20, seed), sampleCircuit(seed%11, 10-seed%11, 6, 3, seed), sampleCircuit(7, 4, 40, 9, seed))
	}
	for steps := range 150 {
		c := turnedSteps(steps)
		last := wiresOf(c) - 1
		c.Outs = []int{last, last / 2, 2}
		circuits = append(circuits, c)
	}
	return circuits
}
