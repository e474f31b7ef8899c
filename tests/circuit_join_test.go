package tests

import (
	"slices"
	"testing"

	"loop.example/g00877/impl"
)

// checkThen checks a circuit after another one: its gates, and its values for some inputs.
func checkThen(t *testing.T, c impl.Circuit, d impl.Circuit) {
	t.Helper()
	both, ok := impl.ThenCircuit(c, d)
	if !ok || !validByHand(both) || both.In0 != c.In0 || both.In1 != c.In1 || len(both.Gates) != len(c.Gates)+len(d.Gates) {
		t.Fatalf("ThenCircuit(%v, %v) = %v, %v", c, d, both, ok)
	}
	if !slices.Equal(both.Gates[:len(c.Gates)], c.Gates) || len(both.Outs) != len(d.Outs) {
		t.Fatalf("ThenCircuit(%v, %v) = %v", c, d, both)
	}
	for i, g := range d.Gates {
		if both.Gates[len(c.Gates)+i].Kind != g.Kind {
			t.Fatalf("ThenCircuit(%v, %v) = %v", c, d, both)
		}
	}
	eachInputs(c, func(a []int, b []int) {
		between := []int{}
		first := valuesByHand(c, a, b)
		for _, wire := range c.Outs {
			between = append(between, first[wire])
		}
		second := valuesByHand(d, between[:d.In0], between[d.In0:])
		values, _ := impl.WireValues(both, a, b)
		if !slices.Equal(values, slices.Concat(first, second[len(between):])) {
			t.Fatalf("ThenCircuit(%v, %v) has, for %v and %v, the values %v", c, d, a, b, values)
		}
		outs, _ := impl.EvalCircuit(both, a, b)
		for i, wire := range d.Outs {
			if outs[i] != second[wire] {
				t.Fatalf("ThenCircuit(%v, %v) has, for %v and %v, the outs %v", c, d, a, b, outs)
			}
		}
	})
}

func TestOneCircuitAfterTheOther(t *testing.T) {
	for _, c := range smallCircuits(1, 1, 1, 2) {
		for _, d := range slices.Concat(smallCircuits(1, 1, 1, 1), smallCircuits(2, 0, 1, 1), smallCircuits(0, 2, 1, 1)) {
			checkThen(t, c, d)
		}
	}
	for seed := range 400 {
		in0, in1 := seed%6, seed/6%5
		c := sampleCircuit(seed%3, seed%4+1, seed%30, in0+in1, seed)
		checkThen(t, c, sampleCircuit(in0, in1, seed%25, seed%9, seed+1000))
	}
	for _, c := range sampleCircuits() {
		in0 := len(c.Outs) / 2
		if len(c.Gates) <= 250 {
			checkThen(t, c, sampleCircuit(in0, len(c.Outs)-in0, 50, 40, 3))
		}
		checkThen(t, c, sampleCircuit(in0, len(c.Outs)-in0, 0, 40, 3))
		checkThen(t, sampleCircuit(3, 2, 0, c.In0+c.In1, 5), c)
	}
}

func TestThenCircuitGates(t *testing.T) {
	c := circuitOf(2, 1, []impl.Gate{andGate(0, 2), oneGate()}, 4, 3, 3)
	// B of GtNot, and both of GtOne, are no wires and stay 0, though wire 0 moves.
	d := circuitOf(1, 2, []impl.Gate{notGate(1), oneGate(), xorGate(0, 3), andGate(5, 2), notGate(0)}, 6, 0, 2, 3)
	want := circuitOf(2, 1, []impl.Gate{andGate(0, 2), oneGate(), notGate(3), oneGate(), xorGate(4, 5), andGate(7, 3), notGate(4)}, 8, 4, 3, 5)
	if both, ok := impl.ThenCircuit(c, d); !ok || !sameCircuit(both, want) {
		t.Errorf("ThenCircuit(%v, %v) = %v, %v, want %v", c, d, both, ok, want)
	}
	if both, ok := impl.ThenCircuit(impl.Circuit{}, impl.Circuit{}); !ok || !sameCircuit(both, impl.Circuit{}) {
		t.Error("ThenCircuit of nothing", both, ok)
	}
	one := circuitOf(0, 0, []impl.Gate{oneGate(), notGate(0)}, 1)
	if both, ok := impl.ThenCircuit(circuitOf(2, 3, nil), one); !ok || !sameCircuit(both, circuitOf(2, 3, []impl.Gate{oneGate(), notGate(5)}, 6)) {
		t.Error("ThenCircuit without outs", both, ok)
	}
}

func TestThenCircuitEdges(t *testing.T) {
	full := circuitOf(20, 20, nil, sampleElements(40, 40, 1)...)
	checkThen(t, full, full)
	checkThen(t, full, sampleCircuit(20, 20, 300, 40, 1))
	for _, n := range []int{0, 1, 150, 299, 300} {
		c, d := sampleCircuit(2, 2, n, 3, n), sampleCircuit(1, 2, 300-n, 2, n)
		checkThen(t, c, d)
		for _, more := range []impl.Circuit{sampleCircuit(1, 2, 301-n, 2, n), sampleCircuit(1, 2, 300, 2, n)} {
			if both, ok := impl.ThenCircuit(c, more); n > 0 && (ok || !sameCircuit(both, impl.Circuit{})) {
				t.Errorf("ThenCircuit of %d and %d gates = %v, %v", n, len(more.Gates), both, ok)
			}
		}
	}
	for outs := range 7 {
		c := sampleCircuit(2, 2, 4, outs, outs)
		for in0 := range 4 {
			for in1 := range 4 {
				d := sampleCircuit(in0, in1, 3, 2, outs)
				if both, ok := impl.ThenCircuit(c, d); ok != (in0+in1 == outs) || !ok && !sameCircuit(both, impl.Circuit{}) {
					t.Errorf("ThenCircuit of %d outs and inputs %d and %d = %v, %v", outs, in0, in1, both, ok)
				}
			}
		}
	}
}

// checkBeside checks a circuit beside another one: its sizes, and its values for some inputs.
func checkBeside(t *testing.T, c impl.Circuit, d impl.Circuit) {
	t.Helper()
	both, ok := impl.BesideCircuit(c, d)
	if !ok || !validByHand(both) || both.In0 != c.In0+d.In0 || both.In1 != c.In1+d.In1 {
		t.Fatalf("BesideCircuit(%v, %v) = %v, %v", c, d, both, ok)
	}
	if len(both.Gates) != len(c.Gates)+len(d.Gates) || len(both.Outs) != len(c.Outs)+len(d.Outs) {
		t.Fatalf("BesideCircuit(%v, %v) = %v", c, d, both)
	}
	for i, g := range slices.Concat(c.Gates, d.Gates) {
		if both.Gates[i].Kind != g.Kind {
			t.Fatalf("BesideCircuit(%v, %v) = %v", c, d, both)
		}
	}
	eachInputs(both, func(a []int, b []int) {
		first := valuesByHand(c, a[:c.In0], b[:c.In1])
		second := valuesByHand(d, a[c.In0:], b[c.In1:])
		values, _ := impl.WireValues(both, a, b)
		if !slices.Equal(values, slices.Concat(a, b, first[c.In0+c.In1:], second[d.In0+d.In1:])) {
			t.Fatalf("BesideCircuit(%v, %v) has, for %v and %v, the values %v", c, d, a, b, values)
		}
		outs, _ := impl.EvalCircuit(both, a, b)
		want := []int{}
		for _, wire := range c.Outs {
			want = append(want, first[wire])
		}
		for _, wire := range d.Outs {
			want = append(want, second[wire])
		}
		if !slices.Equal(outs, want) {
			t.Fatalf("BesideCircuit(%v, %v) has, for %v and %v, the outs %v, want %v", c, d, a, b, outs, want)
		}
	})
}

func TestOneCircuitBesideTheOther(t *testing.T) {
	small := slices.Concat(smallCircuits(1, 1, 1, 1), smallCircuits(2, 0, 1, 1), smallCircuits(0, 1, 1, 1), smallCircuits(0, 0, 1, 1), smallCircuits(1, 0, 0, 1))
	for _, c := range small {
		for _, d := range small {
			checkBeside(t, c, d)
		}
	}
	for seed := range 400 {
		c := sampleCircuit(seed%4, seed/4%5, seed%30, seed%7, seed)
		checkBeside(t, c, sampleCircuit(seed%5, seed/5%4, seed%25, seed%9, seed+1000))
	}
	for _, c := range sampleCircuits() {
		checkBeside(t, c, impl.Circuit{})
		checkBeside(t, impl.Circuit{}, c)
	}
}

func TestBesideCircuitGates(t *testing.T) {
	c := circuitOf(1, 2, []impl.Gate{andGate(0, 2), notGate(1)}, 4, 0)
	// B of GtNot, and both of GtOne, are no wires and stay 0, though wire 0 moves.
	d := circuitOf(2, 1, []impl.Gate{notGate(0), oneGate(), xorGate(2, 3), andGate(5, 1)}, 1, 6, 2, 4)
	want := circuitOf(3, 3, []impl.Gate{andGate(0, 4), notGate(3), notGate(1), oneGate(), xorGate(5, 8), andGate(10, 2)}, 7, 0, 2, 11, 5, 9)
	if both, ok := impl.BesideCircuit(c, d); !ok || !sameCircuit(both, want) {
		t.Errorf("BesideCircuit(%v, %v) = %v, %v, want %v", c, d, both, ok, want)
	}
	if both, ok := impl.BesideCircuit(impl.Circuit{}, impl.Circuit{}); !ok || !sameCircuit(both, impl.Circuit{}) {
		t.Error("BesideCircuit of nothing", both, ok)
	}
}

func TestBesideCircuitEdges(t *testing.T) {
	checkBeside(t, sampleCircuit(20, 0, 150, 20, 1), sampleCircuit(0, 20, 150, 20, 2))
	checkBeside(t, sampleCircuit(7, 19, 299, 39, 3), sampleCircuit(13, 1, 1, 1, 4))
	for _, c := range [][2]impl.Circuit{
		{sampleCircuit(20, 0, 1, 1, 1), sampleCircuit(1, 0, 1, 1, 2)}, {sampleCircuit(0, 20, 1, 1, 1), sampleCircuit(0, 1, 1, 1, 2)},
		{sampleCircuit(10, 10, 1, 1, 1), sampleCircuit(11, 10, 1, 1, 2)}, {sampleCircuit(10, 10, 1, 1, 1), sampleCircuit(10, 11, 1, 1, 2)},
		{sampleCircuit(1, 1, 150, 1, 1), sampleCircuit(1, 1, 151, 1, 2)}, {sampleCircuit(1, 1, 300, 1, 1), sampleCircuit(1, 1, 1, 1, 2)},
		{sampleCircuit(1, 1, 1, 20, 1), sampleCircuit(1, 1, 1, 21, 2)}, {sampleCircuit(1, 1, 1, 40, 1), sampleCircuit(1, 1, 1, 1, 2)},
		{sampleCircuit(20, 20, 300, 40, 1), sampleCircuit(20, 20, 300, 40, 2)},
	} {
		for _, pair := range [][2]impl.Circuit{c, {c[1], c[0]}} {
			if both, ok := impl.BesideCircuit(pair[0], pair[1]); ok || !sameCircuit(both, impl.Circuit{}) {
				t.Errorf("BesideCircuit(%v, %v) = %v, %v", pair[0], pair[1], both, ok)
			}
		}
	}
}
