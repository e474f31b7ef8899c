package tests

import (
	"slices"
	"testing"

	"loop.example/g00877/impl"
)

func checkRun(t *testing.T, c impl.Circuit, a int, b int, want int) {
	t.Helper()
	if n, ok := impl.RunWith(c, a, b); !ok || n != want {
		t.Fatalf("RunWith(%v, %d, %d) = %d, %v, want %d", c, a, b, n, ok, want)
	}
}

func checkNoRun(t *testing.T, c impl.Circuit, a int, b int) {
	t.Helper()
	if n, ok := impl.RunWith(c, a, b); ok || n != 0 {
		t.Errorf("RunWith(%v, %d, %d) = %d, %v", c, a, b, n, ok)
	}
}

func runs(c impl.Circuit) bool {
	return c.In0 <= 16 && c.In1 <= 16 && len(c.Outs) <= 16
}

func TestRunWithAnyCircuit(t *testing.T) {
	ran, refused := 0, 0
	for _, c := range slices.Concat(sampleCircuits(), smallCircuits(1, 1, 1, 3), smallCircuits(0, 2, 2, 1), smallCircuits(2, 1, 1, 2)) {
		eachInputs(c, func(a []int, b []int) {
			if !runs(c) {
				refused++
				checkNoRun(t, c, numberOfBits(a), numberOfBits(b))
				return
			}
			ran++
			values := valuesByHand(c, a, b)
			outs := []int{}
			for _, wire := range c.Outs {
				outs = append(outs, values[wire])
			}
			checkRun(t, c, numberOfBits(a), numberOfBits(b), numberOfBits(outs))
		})
	}
	if ran < 1000 || refused < 100 {
		t.Errorf("%d runs, and %d refused", ran, refused)
	}
}

// identity returns a circuit whose outs are its inputs, those of party 1 first.
func identity(in0 int, in1 int) impl.Circuit {
	return circuitOf(in0, in1, nil, slices.Concat(wiresInOrder(in0, in1), wiresInOrder(0, in0))...)
}

func TestRunWithNumbersThatFit(t *testing.T) {
	for in0 := range 9 {
		for in1 := range 9 {
			c := identity(in0, in1)
			for _, a := range []int{0, 1<<in0 - 1, 1 << in0 / 3} {
				for _, b := range []int{0, 1<<in1 - 1, 1 << in1 / 3} {
					checkRun(t, c, a, b, b+a*(1<<in1))
				}
			}
			for _, n := range append([]int{1 << in0, 1<<in0 + 1, 1 << 20}, misfits(in0)...) {
				checkNoRun(t, c, n, 0)
				checkNoRun(t, c, n, 1<<in1-1)
			}
			for _, n := range append([]int{1 << in1, 1<<in1 + 1, 1 << 20}, misfits(in1)...) {
				checkNoRun(t, c, 0, n)
				checkNoRun(t, c, 1<<in0-1, n)
			}
			checkNoRun(t, c, -1, -1)
			checkNoRun(t, c, 1<<in0, 1<<in1)
		}
	}
}

// misfits returns far numbers that are not those of that many bits.
func misfits(width int) []int {
	return slices.DeleteFunc(slices.Clone(farInts), func(n int) bool { return n >= 0 && n < 1<<width })
}

func TestRunWithManyInputs(t *testing.T) {
	for _, most := range []int{0, 65535, 43690, 1 << 15} {
		checkRun(t, identity(16, 0), most, 0, most)
		checkRun(t, identity(0, 16), 0, most, most)
		// The highest bit of party 0, that of party 1, which is 1, and whether they differ.
		checkRun(t, circuitOf(16, 16, []impl.Gate{xorGate(15, 31)}, 15, 31, 32), most, 65535, []int{6, 3}[most>>15])
	}
	for _, c := range []impl.Circuit{circuitOf(17, 0, nil), circuitOf(0, 17, nil), circuitOf(17, 17, nil, 3), circuitOf(20, 1, nil, 0), circuitOf(16, 17, nil), circuitOf(17, 16, nil), circuitOf(20, 20, nil)} {
		for _, n := range []int{0, 1, 65535, 65536, 1<<17 - 1, 1 << 17} {
			checkNoRun(t, c, 0, n)
			checkNoRun(t, c, n, 0)
			checkNoRun(t, c, n, n)
		}
	}
	for _, n := range append([]int{65536, 65537, 1 << 17}, misfits(16)...) {
		checkNoRun(t, identity(16, 0), n, 0)
		checkNoRun(t, identity(0, 16), 0, n)
	}
}

func TestRunWithManyOuts(t *testing.T) {
	gates := []impl.Gate{oneGate(), notGate(0)}
	for outs := range 41 {
		c := circuitOf(0, 0, gates, repeated(0, outs)...)
		if outs <= 16 {
			checkRun(t, c, 0, 0, 1<<outs-1)
			checkRun(t, circuitOf(0, 0, gates, repeated(1, outs)...), 0, 0, 0)
			checkRun(t, circuitOf(1, 2, nil, repeated(2, outs)...), 1, 2, 1<<outs-1)
			continue
		}
		checkNoRun(t, c, 0, 0)
		checkNoRun(t, circuitOf(0, 0, gates, repeated(1, outs)...), 0, 0)
		checkNoRun(t, circuitOf(1, 2, nil, repeated(2, outs)...), 1, 2)
	}
}

// Without inputs a number has no bits, so only 0 fits; without outs the number is 0.
func TestRunWithoutInputsOrOuts(t *testing.T) {
	checkRun(t, impl.Circuit{}, 0, 0, 0)
	checkRun(t, circuitOf(0, 0, []impl.Gate{oneGate()}, 0), 0, 0, 1)
	checkRun(t, circuitOf(3, 2, []impl.Gate{oneGate()}), 7, 3, 0)
	checkRun(t, circuitOf(2, 0, []impl.Gate{andGate(0, 1)}, 2, 0), 3, 0, 3)
	checkRun(t, circuitOf(0, 2, []impl.Gate{andGate(0, 1)}, 2, 1), 0, 2, 2)
	for _, n := range append([]int{1, 2}, farInts...) {
		checkNoRun(t, impl.Circuit{}, n, 0)
		checkNoRun(t, impl.Circuit{}, 0, n)
		checkNoRun(t, circuitOf(2, 0, nil), 0, n)
		checkNoRun(t, circuitOf(0, 2, nil), n, 0)
	}
}

func TestRunWithNoCircuits(t *testing.T) {
	for _, c := range noCircuits() {
		for _, n := range append([]int{0, 1, 3}, farInts...) {
			arg := sparedCircuit(c)
			checkNoRun(t, arg, n, 0)
			checkNoRun(t, arg, 0, n)
			checkNoRun(t, arg, n, n)
			checkKeptCircuit(t, "RunWith", arg, c)
		}
	}
}

func TestRunWithKeepsCircuits(t *testing.T) {
	for _, c := range sampleCircuits() {
		arg := sparedCircuit(c)
		first, ok := impl.RunWith(arg, 0, 0)
		checkKeptCircuit(t, "RunWith", arg, c)
		if second, again := impl.RunWith(arg, 0, 0); ok != runs(c) || again != ok || second != first {
			t.Errorf("RunWith(%v, 0, 0) = %d, %v, and then %d, %v", c, first, ok, second, again)
		}
	}
}

// The first circuit is written over between two calls, so that memory kept or shared shows.
func TestGadgetsAreNew(t *testing.T) {
	names := []string{"CountCircuit", "constant 0", "constant 1"}
	for _, g := range gadgets() {
		names = append(names, g.name)
	}
	for _, name := range names {
		for w := 1; w <= 16; w++ {
			first, ok := sizedCircuit(name, w)
			if !ok {
				continue
			}
			want := circuitOf(first.In0, first.In1, slices.Clone(first.Gates), slices.Clone(first.Outs)...)
			overwrite(first)
			if second, ok := sizedCircuit(name, w); !ok || !sameCircuit(second, want) {
				t.Errorf("%s of %d, again, is %v, %v, want %v", name, w, second, ok, want)
			}
		}
	}
}

func TestFarArgumentsOfGadgets(t *testing.T) {
	for _, n := range farInts {
		for _, w := range append([]int{0, 1, 16, 17}, farInts...) {
			c, ok := impl.ConstantCircuit(n, w)
			if fits := w == 16 && (n == 31 || n == 32 || n == 63 || n == 64 || n == 65 || n == 1000); ok != fits || !ok && !sameCircuit(c, impl.Circuit{}) {
				t.Errorf("ConstantCircuit(%d, %d) = %v, %v", n, w, c, ok)
			}
		}
		for _, w := range []int{1, 5, 8} {
			adder, _ := impl.AdderCircuit(w)
			if n < 0 || n >= 1<<w {
				checkNoRun(t, adder, n, 0)
				checkNoRun(t, adder, 0, n)
			}
		}
	}
}
