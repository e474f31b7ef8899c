package tests

import (
	"slices"
	"testing"

	"loop.example/g00877/impl"
)

// outsByHand returns the outs for the inputs with the numbers 0, 1, 2, ...
func outsByHand(c impl.Circuit) [][]int {
	rows := [][]int{}
	for n := range 1 << (c.In0 + c.In1) {
		a, b := inputsFor(c, n)
		values := valuesByHand(c, a, b)
		row := []int{}
		for _, wire := range c.Outs {
			row = append(row, values[wire])
		}
		rows = append(rows, row)
	}
	return rows
}

// checkUnequal checks AreEqual and FirstUnequal of two circuits in both orders; a first number of -1 means that they are equal.
func checkUnequal(t *testing.T, c impl.Circuit, d impl.Circuit, first int) {
	t.Helper()
	for _, pair := range [][2]impl.Circuit{{c, d}, {d, c}} {
		if equal, ok := impl.AreEqual(pair[0], pair[1]); !ok || equal != (first < 0) {
			t.Fatalf("AreEqual(%v, %v) = %v, %v", pair[0], pair[1], equal, ok)
		}
		if n, ok := impl.FirstUnequal(pair[0], pair[1]); ok != (first >= 0) || n != max(first, 0) {
			t.Fatalf("FirstUnequal(%v, %v) = %d, %v, want %d", pair[0], pair[1], n, ok, first)
		}
	}
}

// checkIncomparable checks that neither AreEqual nor FirstUnequal takes two circuits.
func checkIncomparable(t *testing.T, c impl.Circuit, d impl.Circuit) {
	t.Helper()
	for _, pair := range [][2]impl.Circuit{{c, d}, {d, c}} {
		if equal, ok := impl.AreEqual(pair[0], pair[1]); ok || equal {
			t.Errorf("AreEqual(%v, %v) = %v, %v", pair[0], pair[1], equal, ok)
		}
		if n, ok := impl.FirstUnequal(pair[0], pair[1]); ok || n != 0 {
			t.Errorf("FirstUnequal(%v, %v) = %d, %v", pair[0], pair[1], n, ok)
		}
	}
}

func firstUnequalByHand(c impl.Circuit, d impl.Circuit) int {
	rows, others := outsByHand(c), outsByHand(d)
	for n := range rows {
		if !slices.Equal(rows[n], others[n]) {
			return n
		}
	}
	return -1
}

func TestUnequalCircuitsAreToldApart(t *testing.T) {
	small := slices.Concat(smallCircuits(1, 1, 1, 1), smallCircuits(1, 1, 0, 1))
	for _, c := range small {
		for _, d := range small {
			checkUnequal(t, c, d, firstUnequalByHand(c, d))
		}
	}
	unequal := map[int]bool{}
	for seed := range 1200 {
		in0, in1, outs := seed%4, seed/4%4, seed%4
		c, d := sampleCircuit(in0, in1, 1+seed%9, outs, seed), sampleCircuit(in0, in1, 1+seed%8, outs, seed+5000)
		first := firstUnequalByHand(c, d)
		unequal[first] = true
		checkUnequal(t, c, d, first)
		checkUnequal(t, c, c, -1)
	}
	if len(unequal) < 5 || !unequal[-1] {
		t.Errorf("only %v are met", unequal)
	}
}

// A changed gate often shows for few inputs alone, or not at all.
func TestCircuitsWithOneGateChanged(t *testing.T) {
	for seed := range 600 {
		c := sampleCircuit(1+seed%5, 1+seed/5%5, 12, 18, seed+300)
		d := circuitOf(c.In0, c.In1, slices.Clone(c.Gates), c.Outs...)
		if k := seed % 12; d.Gates[k].Kind < 2 {
			d.Gates[k].Kind = 1 - d.Gates[k].Kind
		}
		checkUnequal(t, c, d, firstUnequalByHand(c, d))
	}
}

// allInputs returns a circuit of the and of all inputs, which is 1 for the last ones alone.
func allInputs(in0 int, in1 int) impl.Circuit {
	c := circuitOf(in0, in1, nil)
	last := 0
	for wire := 1; wire < in0+in1; wire++ {
		c.Gates = append(c.Gates, andGate(last, wire))
		last = wiresOf(c) - 1
	}
	c.Outs = []int{last}
	return c
}

func TestComparisonsOfTenAndElevenInputs(t *testing.T) {
	for in0 := range 11 {
		c := allInputs(in0, 10-in0)
		never := circuitOf(in0, 10-in0, []impl.Gate{oneGate(), notGate(10)}, 11)
		checkUnequal(t, c, never, 1023)
		checkUnequal(t, c, c, -1)
		checkUnequal(t, never, circuitOf(in0, 10-in0, []impl.Gate{oneGate()}, 10), 0)
		for wire := range 10 {
			checkUnequal(t, never, circuitOf(in0, 10-in0, nil, wire), 1<<wire)
		}
	}
	for in0 := range 12 {
		c := allInputs(in0, 11-in0)
		checkIncomparable(t, c, c)
		checkNotSmall(t, c)
	}
	for _, in := range [][2]int{{20, 20}, {20, 0}, {0, 20}, {10, 10}, {1, 10}, {10, 1}} {
		c := sampleCircuit(in[0], in[1], 3, 2, 1)
		checkIncomparable(t, c, c)
		checkNotSmall(t, c)
	}
}

// checkNotSmall checks that no function for small circuits takes one.
func checkNotSmall(t *testing.T, c impl.Circuit) {
	t.Helper()
	for k := range c.Outs {
		checkNoOut(t, c, k)
	}
	if l, ok := impl.EqualOuts(c); ok || len(l) != 0 {
		t.Errorf("EqualOuts(%v) = %v, %v", c, l, ok)
	}
}

// checkNoOut checks that there is nothing to tell of an out.
func checkNoOut(t *testing.T, c impl.Circuit, k int) {
	t.Helper()
	if l, ok := impl.DependsOn(c, k); ok || len(l) != 0 {
		t.Errorf("DependsOn(%v, %d) = %v, %v", c, k, l, ok)
	}
	if n, ok := impl.OnesOf(c, k); ok || n != 0 {
		t.Errorf("OnesOf(%v, %d) = %d, %v", c, k, n, ok)
	}
}

func TestComparisonsOfDifferentSizes(t *testing.T) {
	sizes := [][3]int{}
	eachList(4, 3, func(l []int) { sizes = append(sizes, [3]int{l[0], l[1], l[2]}) })
	for _, x := range sizes {
		for _, y := range sizes {
			c, d := sampleCircuit(x[0], x[1], 2, x[2], 1), sampleCircuit(y[0], y[1], 2, y[2], 1)
			if x != y {
				checkIncomparable(t, c, d)
			} else {
				checkUnequal(t, c, d, -1)
			}
		}
	}
}

// A truth table has at most 16 outs, but a small circuit may have more.
func TestComparisonsOfManyOuts(t *testing.T) {
	for _, outs := range []int{16, 17, 40} {
		c := circuitOf(1, 1, []impl.Gate{xorGate(0, 1), andGate(0, 1)}, repeated(2, outs)...)
		d := circuitOf(1, 1, c.Gates, repeated(2, outs)...)
		checkUnequal(t, c, d, -1)
		d.Outs[outs-1] = 3
		checkUnequal(t, c, d, 1)
		want := append(repeated(0, outs-1), outs-1)
		if l, ok := impl.EqualOuts(d); !ok || !slices.Equal(l, want) {
			t.Errorf("EqualOuts of %d outs = %v, %v", outs, l, ok)
		}
		if n, ok := impl.OnesOf(d, outs-1); !ok || n != 1 {
			t.Errorf("OnesOf of the last one of %d outs = %d, %v", outs, n, ok)
		}
		checkNoOut(t, d, outs)
	}
}

func TestComparisonsWithoutInputsOrOuts(t *testing.T) {
	one, zero := circuitOf(0, 0, []impl.Gate{oneGate()}, 0), circuitOf(0, 0, []impl.Gate{oneGate(), notGate(0)}, 1)
	checkUnequal(t, one, one, -1)
	checkUnequal(t, one, zero, 0)
	checkUnequal(t, one, circuitOf(0, 0, []impl.Gate{oneGate(), notGate(0), notGate(1)}, 2), -1)
	checkUnequal(t, impl.Circuit{}, impl.Circuit{}, -1)
	checkUnequal(t, impl.Circuit{}, circuitOf(0, 0, []impl.Gate{oneGate()}), -1)
	checkUnequal(t, circuitOf(3, 7, nil), circuitOf(3, 7, []impl.Gate{xorGate(0, 9)}), -1)
	checkIncomparable(t, impl.Circuit{}, one)
	for k, x := range []impl.Circuit{zero, one} {
		if l, ok := impl.DependsOn(x, 0); !ok || len(l) != 0 {
			t.Errorf("DependsOn(%v, 0) = %v, %v", x, l, ok)
		}
		if n, ok := impl.OnesOf(x, 0); !ok || n != k {
			t.Errorf("OnesOf(%v, 0) = %d, %v", x, n, ok)
		}
	}
	if l, ok := impl.EqualOuts(impl.Circuit{}); !ok || len(l) != 0 {
		t.Errorf("EqualOuts of no outs = %v, %v", l, ok)
	}
	checkNoOut(t, impl.Circuit{}, 0)
}

// checkOuts checks what is told of each out.
func checkOuts(t *testing.T, c impl.Circuit) {
	t.Helper()
	rows := outsByHand(c)
	equal := []int{}
	for k := range c.Outs {
		ones := 0
		depends := map[int]bool{}
		first := k
		for _, row := range rows {
			ones += row[k]
		}
		for wire := range c.In0 + c.In1 {
			for n := range rows {
				if n>>wire%2 == 0 && rows[n][k] != rows[n+1<<wire][k] {
					depends[wire] = true
				}
			}
		}
		for earlier := range k {
			if first == k && !slices.ContainsFunc(rows, func(row []int) bool { return row[earlier] != row[k] }) {
				first = earlier
			}
		}
		equal = append(equal, first)
		checkOut(t, c, k, ones, depends)
	}
	if l, ok := impl.EqualOuts(c); !ok || !slices.Equal(l, equal) {
		t.Fatalf("EqualOuts(%v) = %v, %v, want %v", c, l, ok, equal)
	}
}

func checkOut(t *testing.T, c impl.Circuit, k int, ones int, depends map[int]bool) {
	t.Helper()
	if n, ok := impl.OnesOf(c, k); !ok || n != ones {
		t.Fatalf("OnesOf(%v, %d) = %d, %v, want %d", c, k, n, ok, ones)
	}
	l, ok := impl.DependsOn(c, k)
	if !ok || len(l) != len(depends) || !slices.IsSorted(l) || slices.ContainsFunc(l, func(wire int) bool { return !depends[wire] }) {
		t.Fatalf("DependsOn(%v, %d) = %v, %v, want %v", c, k, l, ok, depends)
	}
	// An out that depends on no input has the same value for all inputs.
	if len(l) == 0 && ones != 0 && ones != 1<<(c.In0+c.In1) {
		t.Fatalf("out %d of %v depends on no input, but is 1 for %d of them", k, c, ones)
	}
}

func TestWhatIsToldOfOuts(t *testing.T) {
	for _, c := range allSmallCircuits() {
		checkOuts(t, c)
	}
	for seed := range 800 {
		checkOuts(t, sampleCircuit(seed%4, seed/4%4, 1+seed%20, seed%12, seed+900))
	}
	for seed := range 12 {
		checkOuts(t, sampleCircuit(seed%11, 10-seed%11, 15+seed, 8, seed))
	}
	for _, c := range sampleCircuits() {
		if c.In0+c.In1 <= 3 {
			checkOuts(t, c)
		}
	}
}

func TestOutsByIndex(t *testing.T) {
	// The outs are inputs, constants, turned wires, the same ones twice, and equal ones of different wires.
	gates := []impl.Gate{andGate(0, 2), notGate(0), oneGate(), notGate(5), xorGate(0, 4), andGate(2, 0), xorGate(1, 1), xorGate(7, 2)}
	c := circuitOf(2, 1, gates, 2, 0, 3, 4, 5, 6, 7, 8, 9, 0, 10, 4)
	depends := [][]int{{2}, {0}, {0, 2}, {0}, {}, {}, {}, {0, 2}, {}, {0}, {2}, {0}}
	ones := []int{4, 4, 2, 4, 8, 0, 8, 2, 0, 4, 4, 4}
	for k := range c.Outs {
		if l, ok := impl.DependsOn(c, k); !ok || !slices.Equal(l, depends[k]) {
			t.Errorf("DependsOn(%v, %d) = %v, %v, want %v", c, k, l, ok, depends[k])
		}
		if n, ok := impl.OnesOf(c, k); !ok || n != ones[k] {
			t.Errorf("OnesOf(%v, %d) = %d, %v, want %d", c, k, n, ok, ones[k])
		}
	}
	// The last but one is the opposite of out 0.
	if l, ok := impl.EqualOuts(c); !ok || !slices.Equal(l, []int{0, 1, 2, 3, 4, 5, 4, 2, 5, 1, 10, 3}) {
		t.Errorf("EqualOuts(%v) = %v, %v", c, l, ok)
	}
	for _, k := range append([]int{-1, -2, len(c.Outs), len(c.Outs) + 1, 40}, farInts...) {
		if k < 0 || k >= len(c.Outs) {
			checkNoOut(t, c, k)
		}
	}
}

func TestOnesExample(t *testing.T) {
	for _, in := range [][2]int{{1, 1}, {2, 0}, {0, 2}} {
		if n, ok := impl.OnesOf(circuitOf(in[0], in[1], []impl.Gate{andGate(0, 1)}, 2), 0); !ok || n != 1 {
			t.Errorf("OnesOf of GtAnd of inputs %v = %d, %v", in, n, ok)
		}
	}
	for in0 := range 11 {
		c := allInputs(in0, 10-in0)
		if n, ok := impl.OnesOf(c, 0); !ok || n != 1 {
			t.Errorf("OnesOf(%v, 0) = %d, %v", c, n, ok)
		}
		if l, ok := impl.DependsOn(c, 0); !ok || !slices.Equal(l, []int{0, 1, 2, 3, 4, 5, 6, 7, 8, 9}) {
			t.Errorf("DependsOn(%v, 0) = %v, %v", c, l, ok)
		}
	}
}
