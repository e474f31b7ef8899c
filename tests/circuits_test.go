package tests

import (
	"math"
	"slices"
	"testing"

	"loop.example/g00877/impl"
)

func xorGate(a int, b int) impl.Gate { return impl.Gate{Kind: impl.GtXor, A: a, B: b} }

func andGate(a int, b int) impl.Gate { return impl.Gate{Kind: impl.GtAnd, A: a, B: b} }

func notGate(a int) impl.Gate { return impl.Gate{Kind: impl.GtNot, A: a} }

func oneGate() impl.Gate { return impl.Gate{Kind: impl.GtOne} }

func circuitOf(in0 int, in1 int, gates []impl.Gate, outs ...int) impl.Circuit {
	return impl.Circuit{In0: in0, In1: in1, Gates: gates, Outs: outs}
}

func wiresOf(c impl.Circuit) int {
	return c.In0 + c.In1 + len(c.Gates)
}

func sameCircuit(c impl.Circuit, d impl.Circuit) bool {
	return c.In0 == d.In0 && c.In1 == d.In1 && slices.Equal(c.Gates, d.Gates) && slices.Equal(c.Outs, d.Outs)
}

// validByHand has all wires before a gate in a table and does without the program.
func validByHand(c impl.Circuit) bool {
	if c.In0 < 0 || c.In0 > 20 || c.In1 < 0 || c.In1 > 20 || len(c.Gates) > 300 || len(c.Outs) > 40 {
		return false
	}
	before := map[int]bool{}
	for wire := range c.In0 + c.In1 {
		before[wire] = true
	}
	for _, g := range c.Gates {
		valid := g.Kind == 0 && before[g.A] && before[g.B] || g.Kind == 1 && before[g.A] && before[g.B] ||
			g.Kind == 2 && before[g.A] && g.B == 0 || g.Kind == 3 && g.A == 0 && g.B == 0
		if !valid {
			return false
		}
		before[len(before)] = true
	}
	for _, wire := range c.Outs {
		if !before[wire] {
			return false
		}
	}
	return true
}

// sampleCircuit returns a circuit of the given sizes that follows no short rule. Without inputs
// its first gate is GtOne; without any wire it has no outs.
func sampleCircuit(in0 int, in1 int, gates int, outs int, seed int) impl.Circuit {
	c := impl.Circuit{In0: in0, In1: in1}
	state := uint64(seed)*2862933555777941757 + 3037000493
	below := func(n int) int {
		state = state*6364136223846793005 + 1442695040888963407
		return int(state >> 33 % uint64(n))
	}
	for wire := in0 + in1; len(c.Gates) < gates; wire++ {
		switch kind := below(8); {
		case wire == 0 || kind == 7:
			c.Gates = append(c.Gates, oneGate())
		case kind >= 5:
			c.Gates = append(c.Gates, notGate(below(wire)))
		case kind >= 3:
			c.Gates = append(c.Gates, andGate(below(wire), below(wire)))
		default:
			c.Gates = append(c.Gates, xorGate(below(wire), below(wire)))
		}
	}
	for wiresOf(c) > 0 && len(c.Outs) < outs {
		c.Outs = append(c.Outs, below(wiresOf(c)))
	}
	return c
}

// sampleCircuits returns circuits of many sizes, with each limit met exactly among them.
func sampleCircuits() []impl.Circuit {
	circuits := []impl.Circuit{{}, circuitOf(0, 0, []impl.Gate{oneGate()}), circuitOf(0, 0, []impl.Gate{oneGate(), notGate(0)}, 1, 0, 1)}
	for _, in := range [][2]int{{0, 0}, {1, 0}, {0, 1}, {1, 1}, {2, 3}, {4, 1}, {20, 0}, {0, 20}, {20, 20}, {20, 1}} {
		for _, size := range [][2]int{{0, 0}, {0, 1}, {1, 0}, {1, 1}, {2, 2}, {3, 5}, {8, 3}, {20, 16}, {50, 40}, {299, 39}, {300, 40}, {300, 0}} {
			circuits = append(circuits, sampleCircuit(in[0], in[1], size[0], size[1], len(circuits)))
		}
	}
	return circuits
}

// gatesAfter returns all gates that are valid behind that many wires.
func gatesAfter(wires int) []impl.Gate {
	gates := []impl.Gate{oneGate()}
	for a := range wires {
		gates = append(gates, notGate(a))
		for b := range wires {
			gates = append(gates, xorGate(a, b), andGate(a, b))
		}
	}
	return gates
}

// outLists returns all lists of that many outs.
func outLists(wires int, n int) [][]int {
	lists := [][]int{}
	eachList(wires, n, func(l []int) { lists = append(lists, slices.Clone(l)) })
	return lists
}

// smallCircuits returns all circuits with those inputs, that many gates and that many outs.
func smallCircuits(in0 int, in1 int, gates int, outs int) []impl.Circuit {
	circuits := []impl.Circuit{{In0: in0, In1: in1}}
	for range gates {
		longer := []impl.Circuit{}
		for _, c := range circuits {
			for _, gate := range gatesAfter(wiresOf(c)) {
				longer = append(longer, circuitOf(in0, in1, append(slices.Clone(c.Gates), gate)))
			}
		}
		circuits = longer
	}
	complete := []impl.Circuit{}
	for _, c := range circuits {
		for _, l := range outLists(wiresOf(c), outs) {
			complete = append(complete, circuitOf(in0, in1, c.Gates, l...))
		}
	}
	return complete
}

// allSmallCircuits returns all circuits of a few sizes.
func allSmallCircuits() []impl.Circuit {
	return slices.Concat(
		smallCircuits(0, 0, 0, 0), smallCircuits(0, 0, 1, 1), smallCircuits(0, 0, 3, 1), smallCircuits(1, 0, 2, 1), smallCircuits(0, 1, 2, 2),
		smallCircuits(1, 1, 0, 2), smallCircuits(1, 1, 1, 3), smallCircuits(1, 1, 2, 0), smallCircuits(1, 1, 2, 1), smallCircuits(2, 1, 2, 1),
		smallCircuits(1, 2, 1, 2), smallCircuits(0, 0, 4, 1))
}

// inputsFor returns the inputs of both parties with a number, the lowest bit being wire 0.
func inputsFor(c impl.Circuit, n int) ([]int, []int) {
	bits := make([]int, c.In0+c.In1)
	for i := range bits {
		bits[i] = n >> i & 1
	}
	return bits[:c.In0:c.In0], bits[c.In0:]
}

// eachInputs calls visit with all inputs of a circuit with few of them, and with some inputs of the others.
func eachInputs(c impl.Circuit, visit func(a []int, b []int)) {
	if inputs := c.In0 + c.In1; inputs <= 5 {
		for n := range 1 << inputs {
			visit(inputsFor(c, n))
		}
		return
	}
	visit(repeated(0, c.In0), repeated(0, c.In1))
	visit(repeated(1, c.In0), repeated(1, c.In1))
	for seed := range 6 {
		visit(sampleBits(c.In0, seed), sampleBits(c.In1, seed+50))
	}
}

// noCircuits returns circuits that are not valid, most of them for one reason alone.
func noCircuits() []impl.Circuit {
	circuits := []impl.Circuit{}
	add := func(in0 int, in1 int, gates []impl.Gate, outs ...int) {
		circuits = append(circuits, circuitOf(in0, in1, gates, outs...))
	}
	for _, n := range []int{-1, -20, 21, 22, 1 << 32, 1<<32 + 1, math.MinInt, math.MaxInt} {
		add(n, 0, nil)
		add(0, n, nil)
		add(n, 20, nil)
		add(20, n, nil)
		add(n, -n, nil)
		add(n, 1, []impl.Gate{oneGate()})
	}
	add(math.MaxInt, math.MaxInt, []impl.Gate{oneGate(), xorGate(0, 0)}, 0)
	add(2, 1, slices.Repeat([]impl.Gate{notGate(0)}, 301), 0)
	add(0, 0, slices.Repeat([]impl.Gate{oneGate()}, 301))
	add(2, 1, nil, repeated(0, 41)...)
	add(20, 20, []impl.Gate{oneGate()}, repeated(40, 41)...)
	for _, wire := range []int{-1, -2, 4, 5, 300, 1 << 32, math.MinInt, math.MaxInt} {
		add(2, 1, []impl.Gate{oneGate()}, wire)
		add(2, 1, []impl.Gate{oneGate()}, 0, 1, wire)
		add(2, 1, []impl.Gate{oneGate()}, append(repeated(3, 39), wire)...)
	}
	add(0, 0, nil, 0)
	for _, gate := range noGatesAfter(3) {
		add(2, 1, []impl.Gate{gate})
		add(2, 1, []impl.Gate{gate, oneGate(), oneGate()}, 0)
	}
	for _, gate := range noGatesAfter(3 + 299) {
		add(2, 1, append(slices.Repeat([]impl.Gate{oneGate()}, 299), gate), 301)
	}
	return circuits
}

// noGatesAfter returns gates that are not valid behind that many wires.
func noGatesAfter(wires int) []impl.Gate {
	gates := []impl.Gate{}
	for _, wire := range []int{-1, -3, wires, wires + 1, 1 << 32, math.MinInt, math.MaxInt} {
		gates = append(gates, xorGate(wire, 0), xorGate(0, wire), xorGate(wire, wire), andGate(wire, 0), andGate(0, wire), notGate(wire))
	}
	for _, kind := range []int{-1, 4, 5, 1 << 32, 1<<32 + 3, math.MinInt, math.MaxInt} {
		gates = append(gates, impl.Gate{Kind: kind}, impl.Gate{Kind: kind, A: 1}, impl.Gate{Kind: kind, A: 1, B: 2})
	}
	for _, n := range []int{-1, 1, 2, wires - 1, wires, math.MinInt, math.MaxInt} {
		gates = append(gates, impl.Gate{Kind: impl.GtNot, B: n}, impl.Gate{Kind: impl.GtNot, A: 1, B: n},
			impl.Gate{Kind: impl.GtOne, A: n}, impl.Gate{Kind: impl.GtOne, B: n}, impl.Gate{Kind: impl.GtOne, A: n, B: n})
	}
	return gates
}

// sparedCircuit returns a copy of c with marked memory behind both lists.
func sparedCircuit(c impl.Circuit) impl.Circuit {
	mark := impl.Gate{Kind: spareMark, A: spareMark, B: spareMark}
	gates := append(slices.Clone(c.Gates), mark, mark, mark)
	c.Gates, c.Outs = gates[:len(c.Gates)], spared(c.Outs)
	return c
}

// checkKeptCircuit fails if a circuit made by sparedCircuit from want has changed, or what is behind its lists.
func checkKeptCircuit(t *testing.T, call string, c impl.Circuit, want impl.Circuit) {
	t.Helper()
	if !sameCircuit(c, want) {
		t.Errorf("%s changed its argument %v to %v", call, want, c)
	}
	for _, gate := range c.Gates[len(c.Gates):min(cap(c.Gates), len(c.Gates)+3)] {
		if gate.Kind != spareMark || gate.A != spareMark || gate.B != spareMark {
			t.Errorf("%s wrote behind the gates of %v: %v", call, want, gate)
		}
	}
	checkKept(t, call, c.Outs, want.Outs)
}

// overwrite writes to all memory of a circuit, so that what shares it shows.
func overwrite(c impl.Circuit) {
	gates, outs := c.Gates[:cap(c.Gates)], c.Outs[:cap(c.Outs)]
	for i := range gates {
		gates[i] = impl.Gate{Kind: -77, A: -77, B: -77}
	}
	for i := range outs {
		outs[i] = -77
	}
}
