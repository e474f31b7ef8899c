package tests

import (
	"slices"
	"testing"

	"loop.example/g00877/impl"
)

func TestCircuitLimits(t *testing.T) {
	if impl.MaxInputs != 20 || impl.MaxGates != 300 || impl.MaxOuts != 40 {
		t.Error("limits", impl.MaxInputs, impl.MaxGates, impl.MaxOuts)
	}
	if impl.GtXor != 0 || impl.GtAnd != 1 || impl.GtNot != 2 || impl.GtOne != 3 {
		t.Error("kinds", impl.GtXor, impl.GtAnd, impl.GtNot, impl.GtOne)
	}
}

func TestIsCircuit(t *testing.T) {
	for _, c := range slices.Concat(sampleCircuits(), allSmallCircuits()) {
		if !impl.IsCircuit(c) || !validByHand(c) {
			t.Fatalf("IsCircuit(%v) = false", c)
		}
	}
	for _, c := range noCircuits() {
		if impl.IsCircuit(c) || validByHand(c) {
			t.Errorf("IsCircuit(%v) = true", c)
		}
	}
}

// All gates near the valid ones are tried as the first and as the second one.
func TestIsCircuitOfAllGates(t *testing.T) {
	gates := []impl.Gate{}
	for kind := -1; kind <= 4; kind++ {
		for a := -1; a <= 4; a++ {
			for b := -1; b <= 4; b++ {
				gates = append(gates, impl.Gate{Kind: kind, A: a, B: b})
			}
		}
	}
	for _, in := range [][2]int{{0, 0}, {1, 0}, {0, 1}, {1, 1}, {2, 0}} {
		for _, first := range gates {
			for _, second := range gates {
				c := circuitOf(in[0], in[1], []impl.Gate{first, second})
				if impl.IsCircuit(c) != validByHand(c) {
					t.Fatalf("IsCircuit(%v) = %v", c, !validByHand(c))
				}
			}
		}
		for out := -1; out <= 4; out++ {
			c := circuitOf(in[0], in[1], []impl.Gate{oneGate()}, 0, out)
			if impl.IsCircuit(c) != validByHand(c) {
				t.Fatalf("IsCircuit(%v) = %v", c, !validByHand(c))
			}
		}
	}
}

// valueByHand returns the value of a wire from those of the wires before it.
func valueByHand(c impl.Circuit, wire int, a []int, b []int, before []int) int {
	if wire < len(a) {
		return a[wire]
	}
	if wire < len(a)+len(b) {
		return b[wire-len(a)]
	}
	g := c.Gates[wire-len(a)-len(b)]
	if g.Kind == 0 && before[g.A] != before[g.B] || g.Kind == 1 && before[g.A]+before[g.B] == 2 || g.Kind == 2 && before[g.A] == 0 || g.Kind == 3 {
		return 1
	}
	return 0
}

func valuesByHand(c impl.Circuit, a []int, b []int) []int {
	values := []int{}
	for wire := range wiresOf(c) {
		values = append(values, valueByHand(c, wire, a, b, values))
	}
	return values
}

func TestOutsAreWiresWithTheirValues(t *testing.T) {
	for _, c := range slices.Concat(sampleCircuits(), allSmallCircuits()) {
		eachInputs(c, func(a []int, b []int) {
			values, ok := impl.WireValues(c, a, b)
			if want := valuesByHand(c, a, b); !ok || !slices.Equal(values, want) {
				t.Fatalf("WireValues(%v, %v, %v) = %v, %v, want %v", c, a, b, values, ok, want)
			}
			outs, ok := impl.EvalCircuit(c, a, b)
			if !ok || len(outs) != len(c.Outs) {
				t.Fatalf("EvalCircuit(%v, %v, %v) = %v, %v", c, a, b, outs, ok)
			}
			for i, wire := range c.Outs {
				if outs[i] != values[wire] {
					t.Fatalf("EvalCircuit(%v, %v, %v) = %v, but the values are %v", c, a, b, outs, values)
				}
			}
		})
	}
}

func TestWireValuesOfEachKind(t *testing.T) {
	c := circuitOf(1, 2, []impl.Gate{xorGate(0, 2), andGate(1, 0), notGate(4), oneGate(), xorGate(6, 6), andGate(3, 5)}, 8, 0, 8, 3)
	for _, x := range []struct{ a, b, values, outs []int }{
		{[]int{0}, []int{0, 0}, []int{0, 0, 0, 0, 0, 1, 1, 0, 0}, []int{0, 0, 0, 0}},
		{[]int{1}, []int{0, 0}, []int{1, 0, 0, 1, 0, 1, 1, 0, 1}, []int{1, 1, 1, 1}},
		{[]int{1}, []int{1, 0}, []int{1, 1, 0, 1, 1, 0, 1, 0, 0}, []int{0, 1, 0, 1}},
		{[]int{0}, []int{1, 1}, []int{0, 1, 1, 1, 0, 1, 1, 0, 1}, []int{1, 0, 1, 1}},
		{[]int{1}, []int{1, 1}, []int{1, 1, 1, 0, 1, 0, 1, 0, 0}, []int{0, 1, 0, 0}},
	} {
		if values, ok := impl.WireValues(c, x.a, x.b); !ok || !slices.Equal(values, x.values) {
			t.Errorf("WireValues(%v, %v) = %v, %v, want %v", x.a, x.b, values, ok, x.values)
		}
		if outs, ok := impl.EvalCircuit(c, x.a, x.b); !ok || !slices.Equal(outs, x.outs) {
			t.Errorf("EvalCircuit(%v, %v) = %v, %v, want %v", x.a, x.b, outs, ok, x.outs)
		}
	}
}

// The inputs of a circuit without gates are its only wires.
func TestCircuitsWithoutGates(t *testing.T) {
	c := circuitOf(20, 20, nil, 39, 0, 20, 19)
	a, b := sampleBits(20, 3), sampleBits(20, 4)
	if values, ok := impl.WireValues(c, a, b); !ok || !slices.Equal(values, slices.Concat(a, b)) {
		t.Error("WireValues", values, ok)
	}
	if outs, ok := impl.EvalCircuit(c, a, b); !ok || !slices.Equal(outs, []int{b[19], a[0], b[0], a[19]}) {
		t.Error("EvalCircuit", outs, ok)
	}
	if values, ok := impl.WireValues(impl.Circuit{}, nil, []int{}); !ok || len(values) != 0 {
		t.Error("WireValues of no wires", values, ok)
	}
	if outs, ok := impl.EvalCircuit(impl.Circuit{}, []int{}, nil); !ok || len(outs) != 0 {
		t.Error("EvalCircuit of no wires", outs, ok)
	}
}

func TestInputsThatDoNotFit(t *testing.T) {
	check := func(c impl.Circuit, a []int, b []int) {
		t.Helper()
		x, y := spared(a), spared(b)
		if values, ok := impl.WireValues(c, x, y); ok || len(values) != 0 {
			t.Errorf("WireValues(%v, %v, %v) = %v, %v", c, a, b, values, ok)
		}
		if outs, ok := impl.EvalCircuit(c, x, y); ok || len(outs) != 0 {
			t.Errorf("EvalCircuit(%v, %v, %v) = %v, %v", c, a, b, outs, ok)
		}
		checkKept(t, "WireValues and EvalCircuit", x, a)
		checkKept(t, "WireValues and EvalCircuit", y, b)
	}
	for _, in := range [][2]int{{0, 0}, {1, 0}, {0, 1}, {1, 1}, {2, 3}, {20, 20}} {
		c := sampleCircuit(in[0], in[1], 4, 2, 1)
		for n := range 70 {
			if n != in[0] {
				check(c, repeated(0, n), repeated(0, in[1]))
				check(c, repeated(1, n), repeated(1, max(0, in[0]+in[1]-n)))
			}
			if n != in[1] {
				check(c, repeated(0, in[0]), repeated(0, n))
			}
		}
	}
	for _, l := range noBits() {
		check(circuitOf(min(len(l), 20), 1, nil, 0), l, []int{0})
		check(circuitOf(1, min(len(l), 20), nil, 0), []int{0}, l)
	}
	check(circuitOf(2, 1, nil, 0), []int{0, 2}, []int{0})
	check(circuitOf(2, 1, nil, 0), []int{0, 1}, []int{-1})
}

func TestCountGates(t *testing.T) {
	for _, c := range slices.Concat(sampleCircuits(), allSmallCircuits()) {
		want := []int{0, 0, 0, 0}
		for kind := range want {
			for _, g := range c.Gates {
				if g.Kind == kind {
					want[kind]++
				}
			}
		}
		if counts, ok := impl.CountGates(c); !ok || !slices.Equal(counts, want) {
			t.Fatalf("CountGates(%v) = %v, %v, want %v", c, counts, ok, want)
		}
	}
	c := circuitOf(1, 0, []impl.Gate{oneGate(), notGate(0), notGate(1), xorGate(0, 1), xorGate(0, 2), xorGate(0, 3), andGate(0, 0)})
	if counts, ok := impl.CountGates(c); !ok || !slices.Equal(counts, []int{3, 1, 2, 1}) {
		t.Error("CountGates", counts, ok)
	}
}

// depthByHand goes all ways back from a wire, for circuits with few of them.
func depthByHand(c impl.Circuit, wire int) (int, int) {
	if wire < c.In0+c.In1 {
		return 0, 0
	}
	g := c.Gates[wire-c.In0-c.In1]
	switch g.Kind {
	case 3:
		return 1, 0
	case 2:
		gates, ands := depthByHand(c, g.A)
		return gates + 1, ands
	}
	gates, ands := depthByHand(c, g.A)
	otherGates, otherAnds := depthByHand(c, g.B)
	return max(gates, otherGates) + 1, max(ands, otherAnds) + g.Kind
}

func TestDepthOfSmallCircuits(t *testing.T) {
	circuits := allSmallCircuits()
	for seed := range 200 {
		circuits = append(circuits, sampleCircuit(seed%4, seed%3, seed%14, seed%5, seed))
	}
	for _, c := range circuits {
		gates, ands := 0, 0
		for _, wire := range c.Outs {
			g, a := depthByHand(c, wire)
			gates, ands = max(gates, g), max(ands, a)
		}
		if n, m, ok := impl.DepthOf(c); !ok || n != gates || m != ands {
			t.Fatalf("DepthOf(%v) = %d, %d, %v, want %d, %d", c, n, m, ok, gates, ands)
		}
	}
}

// chain returns a circuit of one input in which each gate reads the wire before it.
func chain(gates int, each func(wire int) impl.Gate, outs ...int) impl.Circuit {
	c := circuitOf(1, 0, nil, outs...)
	for wire := range gates {
		c.Gates = append(c.Gates, each(wire))
	}
	return c
}

func TestDepthOfEdges(t *testing.T) {
	twice := func(wire int) impl.Gate { return andGate(wire, wire) }
	last := func(wire int) impl.Gate { return xorGate(0, wire) }
	mixed := func(wire int) impl.Gate {
		if wire%3 == 0 {
			return andGate(wire, 0)
		}
		return notGate(wire)
	}
	// The longest way has 4 gates and none of them is GtAnd; the one with the most gates GtAnd has 3.
	apart := circuitOf(1, 1, []impl.Gate{notGate(0), notGate(2), notGate(3), andGate(0, 1), andGate(5, 1), xorGate(4, 6)}, 7)
	for _, c := range []struct {
		c           impl.Circuit
		gates, ands int
	}{
		{impl.Circuit{}, 0, 0}, {circuitOf(1, 1, nil, 0, 1), 0, 0}, {circuitOf(0, 0, []impl.Gate{oneGate()}), 0, 0},
		{circuitOf(0, 0, []impl.Gate{oneGate()}, 0), 1, 0}, {circuitOf(3, 0, []impl.Gate{oneGate()}, 2), 0, 0},
		{circuitOf(0, 0, []impl.Gate{oneGate(), notGate(0)}, 1), 2, 0}, {circuitOf(0, 0, []impl.Gate{oneGate(), notGate(0)}, 0), 1, 0},
		{circuitOf(0, 0, []impl.Gate{oneGate(), oneGate(), andGate(0, 1)}, 2), 2, 1},
		{chain(300, notGate, 300), 300, 0}, {chain(300, notGate, 299), 299, 0}, {chain(300, notGate), 0, 0}, {chain(300, notGate, 0), 0, 0},
		{chain(300, twice, 300), 300, 300}, {chain(300, twice, 0, 7, 3), 7, 7}, {chain(300, last, 300), 300, 0}, {chain(300, mixed, 300), 300, 100},
		{apart, 4, 2}, {circuitOf(1, 1, apart.Gates, 7, 5, 0), 4, 2}, {circuitOf(1, 1, apart.Gates, 4, 6), 3, 2}, {circuitOf(1, 1, apart.Gates, 4), 3, 0},
	} {
		if n, m, ok := impl.DepthOf(c.c); !ok || n != c.gates || m != c.ands {
			t.Errorf("DepthOf(%v) = %d, %d, %v, want %d, %d", c.c, n, m, ok, c.gates, c.ands)
		}
	}
}

// markUsed marks a wire and all wires that its gate needs.
func markUsed(c impl.Circuit, wire int, used []bool) {
	if used[wire] {
		return
	}
	used[wire] = true
	if wire < c.In0+c.In1 {
		return
	}
	g := c.Gates[wire-c.In0-c.In1]
	if g.Kind != 3 {
		markUsed(c, g.A, used)
	}
	if g.Kind < 2 {
		markUsed(c, g.B, used)
	}
}

func TestUsedWires(t *testing.T) {
	for _, c := range slices.Concat(sampleCircuits(), allSmallCircuits()) {
		used, want := make([]bool, wiresOf(c)), []int{}
		for _, wire := range c.Outs {
			markUsed(c, wire, used)
		}
		for wire := range used {
			if used[wire] {
				want = append(want, wire)
			}
		}
		if wires, ok := impl.UsedWires(c); !ok || !slices.Equal(wires, want) {
			t.Fatalf("UsedWires(%v) = %v, %v, want %v", c, wires, ok, want)
		}
	}
}

func TestUsedWiresEdges(t *testing.T) {
	// GtNot and GtOne do not use wire 0, though their B, or their A and B, is 0.
	unread := []impl.Gate{notGate(2), oneGate(), xorGate(3, 4)}
	for _, c := range []struct {
		c    impl.Circuit
		want []int
	}{
		{impl.Circuit{}, nil}, {circuitOf(2, 2, nil), nil}, {circuitOf(2, 2, nil, 3, 1, 3), []int{1, 3}},
		{circuitOf(2, 1, unread, 5), []int{2, 3, 4, 5}}, {circuitOf(2, 1, unread, 3), []int{2, 3}}, {circuitOf(2, 1, unread, 4), []int{4}},
		{circuitOf(2, 1, unread), nil}, {circuitOf(2, 1, unread, 0), []int{0}},
		{circuitOf(1, 0, []impl.Gate{xorGate(0, 0)}), nil}, {circuitOf(1, 0, []impl.Gate{xorGate(0, 0)}, 1, 1), []int{0, 1}},
		// An unused gate reads an unused gate, and both read what is used.
		{circuitOf(1, 1, []impl.Gate{andGate(0, 1), xorGate(2, 0), andGate(3, 2), notGate(2)}, 5), []int{0, 1, 2, 5}},
		{circuitOf(1, 1, []impl.Gate{andGate(0, 0), notGate(2), notGate(3)}, 1), []int{1}},
		{chain(300, notGate), nil}, {chain(300, notGate, 2), []int{0, 1, 2}},
	} {
		if wires, ok := impl.UsedWires(c.c); !ok || !slices.Equal(wires, c.want) {
			t.Errorf("UsedWires(%v) = %v, %v, want %v", c.c, wires, ok, c.want)
		}
	}
}

func TestTruthTable(t *testing.T) {
	circuits := allSmallCircuits()
	for seed := range 120 {
		circuits = append(circuits, sampleCircuit(seed%4, seed%3, seed%20, seed%17, seed))
	}
	for _, in := range [][2]int{{10, 0}, {0, 10}, {5, 5}, {9, 1}} {
		circuits = append(circuits, sampleCircuit(in[0], in[1], 300, 16, in[0]), circuitOf(in[0], in[1], nil, 9, 0))
	}
	for _, c := range circuits {
		table, ok := impl.TruthTable(c)
		if !ok || len(table) != 1<<(c.In0+c.In1) {
			t.Fatalf("TruthTable(%v) = %v, %v", c, table, ok)
		}
		for n, got := range table {
			a, b := inputsFor(c, n)
			values, want := valuesByHand(c, a, b), 0
			for i, wire := range c.Outs {
				want += values[wire] << i
			}
			if got != want {
				t.Fatalf("TruthTable(%v) at %d is %d, want %d", c, n, got, want)
			}
		}
	}
}

func TestTruthTableEdges(t *testing.T) {
	gates := []impl.Gate{oneGate()}
	for _, c := range []struct {
		c    impl.Circuit
		want []int
	}{
		{impl.Circuit{}, []int{0}}, {circuitOf(0, 0, gates), []int{0}}, {circuitOf(0, 0, gates, 0), []int{1}},
		{circuitOf(0, 0, gates, repeated(0, 16)...), []int{65535}}, {circuitOf(2, 1, nil), repeated(0, 8)},
		{circuitOf(10, 0, nil), repeated(0, 1024)}, {circuitOf(0, 10, gates, repeated(10, 16)...), repeated(65535, 1024)},
		{circuitOf(1, 1, nil, 0, 1), []int{0, 1, 2, 3}}, {circuitOf(1, 1, nil, 1, 0), []int{0, 2, 1, 3}},
	} {
		if table, ok := impl.TruthTable(c.c); !ok || !slices.Equal(table, c.want) {
			t.Errorf("TruthTable(%v) = %v, %v, want %v", c.c, table, ok, c.want)
		}
	}
	for _, c := range []impl.Circuit{
		circuitOf(11, 0, nil), circuitOf(0, 11, nil, 0), circuitOf(5, 6, nil, 0), circuitOf(10, 1, nil), circuitOf(20, 20, nil, 0),
		circuitOf(0, 0, gates, repeated(0, 17)...), circuitOf(1, 1, nil, repeated(1, 17)...), circuitOf(10, 0, nil, repeated(0, 40)...),
	} {
		if table, ok := impl.TruthTable(c); ok || len(table) != 0 {
			t.Errorf("TruthTable(%v) = %v, %v", c, table, ok)
		}
	}
}

func TestCircuitExample(t *testing.T) {
	c := circuitOf(1, 1, []impl.Gate{andGate(0, 1), notGate(2)}, 3)
	if table, ok := impl.TruthTable(c); !ok || !slices.Equal(table, []int{1, 1, 1, 0}) {
		t.Error("TruthTable", table, ok)
	}
	if gates, ands, ok := impl.DepthOf(c); !ok || gates != 2 || ands != 1 {
		t.Error("DepthOf", gates, ands, ok)
	}
}
