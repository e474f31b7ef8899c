package tests

import (
	"slices"
	"testing"

	"loop.example/g00877/impl"
)

// The constants are worked out by hand from the document.
func TestConstantWiresGateByGate(t *testing.T) {
	for _, x := range []struct {
		lines string
		want  []int
	}{
		{"0 0;outs", nil},
		{"2 1;outs 0 0", []int{-1, -1, -1}},
		{"0 0;one;outs", []int{1}},
		{"0 0;one;not 0;not 1;not 2;one;not 4;outs 3", []int{1, 0, 1, 0, 1, 0}},
		{"1 0;not 0;not 1;not 2;outs", []int{-1, -1, -1, -1}},
		{"0 0;one;not 0;xor 0 1;xor 1 0;xor 0 0;xor 1 1;outs", []int{1, 0, 1, 1, 0, 0}},
		{"0 0;one;not 0;one;xor 0 2;not 1;xor 4 1;outs", []int{1, 0, 1, 0, 1, 1}},
		{"1 1;xor 0 0;xor 1 1;xor 0 1;xor 4 4;outs", []int{-1, -1, 0, 0, -1, 0}},
		{"1 0;one;not 1;xor 0 1;xor 2 0;xor 3 3;outs", []int{-1, 1, 0, -1, -1, 0}},
		// Of a wire and its opposite the rules tell nothing, nor of equal wires that are not one.
		{"1 0;not 0;xor 0 1;and 0 1;not 1;xor 0 4;outs", []int{-1, -1, -1, -1, -1, -1}},
		{"1 1;and 0 1;and 1 0;xor 2 3;outs", []int{-1, -1, -1, -1, -1}},
		{"0 0;one;not 0;and 0 0;and 0 1;and 1 0;and 1 1;outs", []int{1, 0, 1, 0, 0, 0}},
		{"1 0;one;not 1;and 0 2;and 2 0;and 0 1;and 1 0;and 0 0;outs", []int{-1, 1, 0, 0, 0, -1, -1, -1}},
		{"1 1;xor 1 1;and 2 0;not 3;and 4 1;xor 4 3;and 6 4;outs", []int{-1, -1, 0, 0, 1, -1, 1, 1}},
	} {
		c := circuitFrom(t, x.lines)
		if constants, ok := impl.ConstantWires(c); !ok || !slices.Equal(constants, x.want) {
			t.Errorf("ConstantWires(%q) = %v, %v, want %v", x.lines, constants, ok, x.want)
		}
	}
}

func TestConstantsAreNeverDifferent(t *testing.T) {
	for _, c := range simplifiable() {
		constants, ok := impl.ConstantWires(c)
		if !ok || !slices.Equal(constants, constantsByHand(c)) {
			t.Fatalf("ConstantWires(%v) = %v, %v, want %v", c, constants, ok, constantsByHand(c))
		}
		eachInputs(c, func(a []int, b []int) {
			values, _ := impl.WireValues(c, a, b)
			for wire, constant := range constants {
				if constant != -1 && constant != values[wire] {
					t.Fatalf("ConstantWires(%v) = %v, but for %v and %v the values are %v", c, constants, a, b, values)
				}
			}
		})
	}
}

// checkSame fails if two circuits have different outs for some inputs.
func checkSame(t *testing.T, call string, c impl.Circuit, d impl.Circuit) {
	t.Helper()
	eachInputs(c, func(a []int, b []int) {
		outs, ok := impl.EvalCircuit(c, a, b)
		others, fits := impl.EvalCircuit(d, a, b)
		if !ok || !fits || !slices.Equal(outs, others) {
			t.Fatalf("%s of %v is %v: for %v and %v %v, not %v", call, c, d, a, b, others, outs)
		}
	})
	table, ok := impl.TruthTable(c)
	other, fits := impl.TruthTable(d)
	if ok != fits || !slices.Equal(table, other) {
		t.Fatalf("%s of %v is %v: the table is %v, not %v", call, c, d, other, table)
	}
}

// checkLines compares what a function makes of circuits with texts worked out by hand from the document.
func checkLines(t *testing.T, name string, f func(c impl.Circuit) (impl.Circuit, bool), wants [][2]string) {
	t.Helper()
	for _, x := range wants {
		c := circuitFrom(t, x[0])
		d, ok := f(c)
		if !ok || linesIn(d) != x[1] {
			t.Errorf("%s(%q) = %q, %v, want %q", name, x[0], linesIn(d), ok, x[1])
			continue
		}
		checkSame(t, name, c, d)
	}
}

func TestMergeGatesGateByGate(t *testing.T) {
	checkLines(t, "MergeGates", impl.MergeGates, [][2]string{
		{"0 0;outs", "0 0;outs"},
		{"2 1;outs 2 0 0", "2 1;outs 2 0 0"},
		{"1 1;and 0 1;xor 0 1;outs", "1 1;and 0 1;xor 0 1;outs"},
		{"1 1;and 0 1;and 1 0;and 0 1;outs 2 3 4 3", "1 1;and 0 1;and 1 0;and 0 1;outs 2 2 2 2"},
		{"1 1;xor 1 0;xor 0 1;xor 3 2;outs 4 3", "1 1;xor 1 0;xor 0 1;xor 2 2;outs 4 2"},
		{"1 1;and 0 1;xor 0 1;and 0 0;and 1 1;outs 2 3 4 5", "1 1;and 0 1;xor 0 1;and 0 0;and 1 1;outs 2 3 4 5"},
		{"0 0;one;one;one;not 2;not 0;not 3;outs 1 2 3 4 5", "0 0;one;one;one;not 0;not 0;not 3;outs 0 0 3 3 5"},
		{"1 0;one;not 0;one;not 0;not 1;not 3;outs 5 3 4 2 6", "1 0;one;not 0;one;not 0;not 1;not 1;outs 5 1 2 2 5"},
		{"2 0;not 0;not 1;not 0;outs 4 3 2", "2 0;not 0;not 1;not 0;outs 2 3 2"},
		// Gates that become equal only when earlier ones are replaced, once and once again.
		{"2 1;and 0 1;and 1 0;xor 3 2;xor 2 4;outs 6 5", "2 1;and 0 1;and 1 0;xor 3 2;xor 2 3;outs 5 5"},
		{"1 1;one;one;and 2 0;and 0 3;not 4;not 5;xor 6 1;xor 1 7;outs 9 8 7 5", "1 1;one;one;and 2 0;and 0 2;not 4;not 4;xor 6 1;xor 1 6;outs 8 8 6 4"},
		// Neither constants nor opposites nor one wire twice are looked at.
		{"1 0;not 0;not 1;xor 0 0;and 0 0;one;and 0 5;outs 2 3 4 6", "1 0;not 0;not 1;xor 0 0;and 0 0;one;and 0 5;outs 2 3 4 6"},
		// A gate GtNot has one wire alone: the 0 behind it is none.
		{"1 1;not 1;xor 0 1;xor 1 0;not 0;not 1;outs 6 5 4 3 2", "1 1;not 1;xor 0 1;xor 1 0;not 0;not 1;outs 2 5 3 3 2"},
	})
}

func TestMergedGatesKeepTheValues(t *testing.T) {
	for _, c := range simplifiable() {
		merged, ok := impl.MergeGates(c)
		if want := mergedByHand(c); !ok || !sameCircuit(merged, want) || !validByHand(merged) {
			t.Fatalf("MergeGates(%v) = %v, %v, want %v", c, merged, ok, want)
		}
		eachInputs(c, func(a []int, b []int) {
			values, _ := impl.WireValues(c, a, b)
			if others, _ := impl.WireValues(merged, a, b); !slices.Equal(values, others) {
				t.Fatalf("MergeGates(%v) = %v changes the values for %v and %v", c, merged, a, b)
			}
		})
		checkSame(t, "MergeGates", c, merged)
		checkDifferentGates(t, merged)
	}
}

// checkDifferentGates fails if two gates in use are equal.
func checkDifferentGates(t *testing.T, c impl.Circuit) {
	t.Helper()
	used, _ := impl.UsedWires(c)
	seen := map[string]bool{}
	for _, wire := range used {
		if wire < c.In0+c.In1 {
			continue
		}
		key := gateKey(c.Gates[wire-c.In0-c.In1])
		if seen[key] {
			t.Fatalf("two gates %s of %v are used", key, c)
		}
		seen[key] = true
	}
}

func TestDropDeadGateByGate(t *testing.T) {
	checkLines(t, "DropDead", impl.DropDead, [][2]string{
		{"0 0;outs", "0 0;outs"},
		{"0 0;one;not 0;outs", "0 0;outs"},
		{"2 1;outs 2 0 0", "2 1;outs 2 0 0"},
		{"2 1;and 0 1;not 3;outs 1", "2 1;outs 1"},
		{"1 1;and 0 1;xor 0 1;outs 3", "1 1;xor 0 1;outs 2"},
		{"1 1;and 0 1;xor 0 1;outs 2", "1 1;and 0 1;outs 2"},
		{"1 1;one;and 0 1;one;xor 3 4;not 2;outs 5 0 5", "1 1;and 0 1;one;xor 2 3;outs 4 0 4"},
		// A gate that only dead ones need is dead; one that a dead one and another one need is not.
		{"1 1;and 0 1;not 2;xor 3 2;xor 2 0;outs 5", "1 1;and 0 1;xor 2 0;outs 3"},
		{"1 1;not 0;not 1;and 3 3;xor 4 2;not 4;outs 6 1", "1 1;not 1;and 2 2;not 3;outs 4 1"},
		// Gates without wires, and the wire 0 of GtNot: a 0 that is no wire does not use it.
		{"0 0;one;one;one;outs 2", "0 0;one;outs 0"},
		{"0 0;one;one;not 1;outs 2", "0 0;one;not 0;outs 1"},
		// Equal gates and constants stay.
		{"1 1;and 0 1;and 1 0;xor 2 2;xor 2 3;outs 4 5", "1 1;and 0 1;and 1 0;xor 2 2;xor 2 3;outs 4 5"},
	})
}

func TestDroppedGatesKeepTheValues(t *testing.T) {
	for _, c := range simplifiable() {
		dropped, ok := impl.DropDead(c)
		if want := droppedByHand(c); !ok || !sameCircuit(dropped, want) || !validByHand(dropped) {
			t.Fatalf("DropDead(%v) = %v, %v, want %v", c, dropped, ok, want)
		}
		checkSame(t, "DropDead", c, dropped)
		used, _ := impl.UsedWires(dropped)
		before, _ := impl.UsedWires(c)
		isGate := func(wire int) bool { return wire >= c.In0+c.In1 }
		gates, gatesBefore := len(used)-firstWhere(used, isGate), len(before)-firstWhere(before, isGate)
		if gates != len(dropped.Gates) || gates != gatesBefore {
			t.Fatalf("DropDead(%v) = %v: %d gates are used, %d before", c, dropped, gates, gatesBefore)
		}
	}
}

// firstWhere returns the length of the list if there is no such element.
func firstWhere(l []int, is func(x int) bool) int {
	if i := slices.IndexFunc(l, is); i >= 0 {
		return i
	}
	return len(l)
}

func TestSimplifyCircuitGateByGate(t *testing.T) {
	checkLines(t, "SimplifyCircuit", impl.SimplifyCircuit, [][2]string{
		{"0 0;outs", "0 0;outs"},
		{"2 1;outs 2 0 0", "2 1;outs 2 0 0"},
		{"1 1;and 0 1;one;outs", "1 1;outs"},
		// GtOne and GtNot, of them, of constants and of each other.
		{"0 0;one;outs 0", "0 0;one;outs 0"},
		{"0 0;one;not 0;outs 1", "0 0;one;not 0;outs 1"},
		{"0 0;one;not 0;not 1;not 2;one;not 4;outs 0 1 2 3 4 5", "0 0;one;not 0;outs 0 1 0 1 0 1"},
		{"1 0;one;not 1;outs 2 0 1 2", "1 0;one;not 1;outs 2 0 1 2"},
		{"1 0;not 0;outs 1", "1 0;not 0;outs 1"},
		{"1 0;not 0;not 1;not 2;not 0;outs 2 3 1 4 0", "1 0;not 0;outs 0 1 1 1 0"},
		// GtXor of constants, of one wire twice, of a wire and its opposite.
		{"0 0;one;one;xor 0 1;not 0;xor 3 0;xor 3 3;outs 2 4 5", "0 0;one;not 0;outs 1 0 1"},
		{"1 0;one;xor 0 1;xor 1 0;not 1;xor 4 0;xor 0 4;outs 2 3 5 6", "1 0;not 0;outs 1 1 0 0"},
		{"1 0;not 0;one;xor 1 2;xor 2 1;not 2;xor 5 1;xor 1 5;outs 3 4 6 7", "1 0;not 0;outs 0 0 1 1"},
		{"1 0;xor 0 0;outs 1", "1 0;one;not 1;outs 2"},
		{"1 0;not 0;xor 0 1;outs 2", "1 0;one;outs 1"},
		{"1 0;not 0;xor 1 0;xor 1 1;outs 3 2", "1 0;one;not 1;outs 2 1"},
		// GtXor of two wires, of which none, one or both are turned.
		{"1 1;xor 1 0;outs 2", "1 1;xor 1 0;outs 2"},
		{"1 1;not 0;xor 2 1;outs 3", "1 1;xor 0 1;not 2;outs 3"},
		{"1 1;not 1;xor 0 2;outs 3", "1 1;xor 0 1;not 2;outs 3"},
		{"1 1;not 0;not 1;xor 2 3;outs 4", "1 1;xor 0 1;outs 2"},
		{"1 1;not 0;not 1;xor 1 0;xor 2 3;xor 2 1;not 6;outs 5 4 6 7", "1 1;xor 1 0;not 2;outs 2 2 3 2"},
		// GtAnd of constants, of one wire twice, of a wire and its opposite.
		{"0 0;one;not 0;and 0 0;and 0 1;and 1 0;and 1 1;outs 2 3 4 5", "0 0;one;not 0;outs 0 1 1 1"},
		{"1 0;one;not 1;and 0 1;and 1 0;and 0 2;and 2 0;outs 3 4 5 6", "1 0;one;not 1;outs 0 0 2 2"},
		{"1 0;one;not 0;and 1 2;and 2 1;outs 3 4", "1 0;not 0;outs 1 1"},
		{"1 0;and 0 0;outs 1", "1 0;outs 0"},
		{"1 0;not 0;and 1 1;outs 2", "1 0;not 0;outs 1"},
		{"1 0;not 0;and 0 1;and 1 0;outs 2 3", "1 0;one;not 1;outs 2 2"},
		{"1 1;xor 0 1;not 0;xor 3 1;and 2 4;and 2 2;and 4 4;outs 5 6 7", "1 1;xor 0 1;one;not 3;not 2;outs 4 2 5"},
		// GtAnd of two wires: that of x is made a wire before that of y.
		{"1 1;and 1 0;outs 2", "1 1;and 1 0;outs 2"},
		{"1 1;not 0;and 2 1;outs 3", "1 1;not 0;and 2 1;outs 3"},
		{"1 1;not 1;and 0 2;outs 3", "1 1;not 1;and 0 2;outs 3"},
		{"1 1;not 1;not 0;and 3 2;outs 4", "1 1;not 0;not 1;and 2 3;outs 4"},
		{"1 1;not 0;not 1;and 3 2;not 4;outs 5", "1 1;not 1;not 0;and 2 3;not 4;outs 5"},
	})
}

func TestSimplifyCircuitSharesAndDropsGates(t *testing.T) {
	checkLines(t, "SimplifyCircuit", impl.SimplifyCircuit, [][2]string{
		{"1 1;and 0 1;and 1 0;xor 1 0;xor 0 1;outs 2 3 4 5", "1 1;and 0 1;xor 1 0;outs 2 2 3 3"},
		{"2 1;and 0 1;and 1 0;xor 3 2;xor 2 4;outs 5 6", "2 1;and 0 1;xor 3 2;outs 4 4"},
		{"1 1;and 0 1;and 1 0;xor 2 3;one;outs 3 4", "1 1;and 0 1;one;not 3;outs 2 4"},
		{"1 1;not 0;and 2 1;not 0;and 1 4;outs 3 5", "1 1;not 0;and 2 1;outs 3 3"},
		{"2 1;not 0;and 3 1;and 2 3;outs 4 3 5", "2 1;not 0;and 3 1;and 2 3;outs 4 3 5"},
		// A gate GtNot is made where it is needed first, though it is needed there by a dead gate.
		{"2 1;not 0;and 3 1;xor 1 2;and 3 5;outs 6", "2 1;not 0;xor 1 2;and 3 4;outs 5"},
		{"2 1;not 0;xor 1 2;and 3 4;outs 5", "2 1;xor 1 2;not 0;and 4 3;outs 5"},
		{"2 1;and 0 1;xor 0 2;not 4;outs 5 1", "2 1;xor 0 2;not 3;outs 4 1"},
		// Outs that are turned are made wires in order, and each only once.
		{"1 1;not 1;not 0;outs 3 2 3 1 2", "1 1;not 0;not 1;outs 2 3 2 1 3"},
		{"1 1;not 1;not 0;one;not 4;outs 2 5 3 4", "1 1;not 1;one;not 3;not 0;outs 2 4 5 3"},
		// A turned wire is one of the gate, not of the gate GtNot that was made of it.
		{"1 1;not 0;and 2 1;xor 2 0;and 2 0;xor 2 3;outs 3 4 5 6", "1 1;not 0;and 2 1;xor 0 3;one;not 5;not 4;outs 3 5 6 7"},
		{"3 0;and 0 1;not 3;xor 4 2;not 5;xor 6 2;outs 7", "3 0;and 0 1;xor 3 2;xor 4 2;outs 5"},
	})
}

func TestSimplifiedCircuitsAreEqual(t *testing.T) {
	for _, c := range simplifiable() {
		simplified, ok := impl.SimplifyCircuit(c)
		_, want := simplifiedByHand(c)
		if len(want.Gates) > 300 {
			if ok || !sameCircuit(simplified, impl.Circuit{}) {
				t.Fatalf("SimplifyCircuit(%v) = %v, %v", c, simplified, ok)
			}
			continue
		}
		if !ok || !sameCircuit(simplified, want) || !validByHand(simplified) {
			t.Fatalf("SimplifyCircuit(%v) = %v, %v, want %v", c, simplified, ok, want)
		}
		checkSame(t, "SimplifyCircuit", c, simplified)
		counts, _ := impl.CountGates(c)
		if fewer, _ := impl.CountGates(simplified); fewer[impl.GtAnd] > counts[impl.GtAnd] || fewer[impl.GtOne] > 1 {
			t.Fatalf("SimplifyCircuit(%v) = %v has the gates %v, not %v", c, simplified, fewer, counts)
		}
		if equal, comparable := impl.AreEqual(c, simplified); comparable != (c.In0+c.In1 <= 10) || equal != comparable {
			t.Fatalf("AreEqual(%v, %v) = %v, %v", c, simplified, equal, comparable)
		}
		checkDifferentGates(t, simplified)
	}
}

func TestSimplifiedGadgets(t *testing.T) {
	for _, g := range gadgets() {
		for w := 1; w <= g.widest; w++ {
			c, _ := g.make(w)
			simplified, ok := impl.SimplifyCircuit(c)
			if !ok {
				t.Fatalf("SimplifyCircuit of %s of width %d fails", g.name, w)
			}
			checkSame(t, g.name, c, simplified)
			counts, _ := impl.CountGates(simplified)
			if counts[impl.GtAnd] > g.ands(w) {
				t.Errorf("%s of width %d, simplified, has the gates %v", g.name, w, counts)
			}
		}
	}
}

// A circuit of n steps is simplified to one of 1 + 3 n gates, a turned out and both constants add one each.
func TestSimplifiedCircuitsWithTooManyGates(t *testing.T) {
	for _, x := range []struct {
		steps, turned int
		constants     []int
		gates         int
	}{
		{98, 0, nil, 295}, {99, 0, nil, 298}, {99, 1, nil, 299}, {99, 0, []int{1, 0}, 300}, {99, 1, []int{1}, 300}, {99, 1, []int{1, 0}, 301},
		{99, 1, []int{0}, 301}, {100, 0, nil, 301}, {149, 0, nil, 448},
	} {
		c := turnedSteps(x.steps)
		last := wiresOf(c) - 1
		constants := []int{wiresOf(c) + 1, wiresOf(c)}
		if x.turned+len(x.constants) > 0 {
			c.Gates = append(c.Gates, oneGate(), notGate(last+1), notGate(last))
		}
		c.Outs = []int{last + 3*x.turned}
		for _, constant := range x.constants {
			c.Outs = append(c.Outs, constants[constant])
		}
		_, want := simplifiedByHand(c)
		if !validByHand(c) || len(want.Gates) != x.gates {
			t.Fatalf("%v has, simplified, %d gates, want %d", x, len(want.Gates), x.gates)
		}
		simplified, ok := impl.SimplifyCircuit(c)
		if ok != (x.gates <= 300) || ok && !sameCircuit(simplified, want) || !ok && !sameCircuit(simplified, impl.Circuit{}) {
			t.Errorf("SimplifyCircuit of %v has %d gates, %v, want %d", x, len(simplified.Gates), ok, x.gates)
		}
	}
}

// Before dead gates are dropped these circuits have too many gates, and then few, or exactly as many as can be.
func TestSimplifiedCircuitsWithTooManyDeadGates(t *testing.T) {
	for _, outs := range [][]int{nil, {1}, {4}, {2, 3}, {2, 3, 4}, {2 + 2*99}, {2 + 2*99, 2 + 2*20}, {2 + 2*99, 3, 2}} {
		c := turnedSteps(149)
		c.Outs = outs
		before, want := simplifiedByHand(c)
		simplified, ok := impl.SimplifyCircuit(c)
		if len(before.Gates) < 448 || !ok || !sameCircuit(simplified, want) {
			t.Errorf("SimplifyCircuit for the outs %v = %v, %v, want %v; before %d gates", outs, simplified, ok, want, len(before.Gates))
		}
		checkSame(t, "SimplifyCircuit", c, simplified)
	}
}
