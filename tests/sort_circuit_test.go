package tests

import (
	"slices"
	"testing"

	"loop.example/g00877/impl"
)

// gatesOfStep is how many gates a step has for numbers of a width: 3 and then 6 for each further bit that subtract, and 3 for each bit that choose, twice.
func gatesOfStep(w int) int {
	return 3 + 6*(w-1) + 2*3*w
}

// networkCircuitByHand returns the circuit of a network, made from the texts of its gates; it may have too many gates.
func networkCircuitByHand(n network, w int) impl.Circuit {
	h := handCompiler{circuit: impl.Circuit{In0: n.lines * w}}
	numbers := [][]int{}
	for line := range n.lines {
		numbers = append(numbers, wiresInOrder(line*w, w))
	}
	for _, step := range n.steps {
		low, high := numbers[step.Low], numbers[step.High]
		_, borrow := h.ripple(subtractFirstByHand, subtractNextByHand, low, high, 0)
		numbers[step.Low], _ = h.ripple(chooseByHand, chooseByHand, low, high, borrow)
		numbers[step.High], _ = h.ripple(chooseByHand, chooseByHand, high, low, borrow)
	}
	h.circuit.Outs = slices.Concat(numbers...)
	return h.circuit
}

// The texts of the circuits are worked out by hand from the document.
func TestNetworkCircuitsGateByGate(t *testing.T) {
	for _, x := range []struct {
		lines int
		steps string
		w     int
		want  string
	}{
		{1, "", 1, "circuit 1 0\nouts 0\n"},
		{1, "", 4, "circuit 4 0\nouts 0 1 2 3\n"},
		{3, "", 2, "circuit 6 0\nouts 0 1 2 3 4 5\n"},
		{2, "0-1", 1, "circuit 2 0\nxor 0 1\nnot 0\nand 3 1\nxor 0 1\nand 4 5\nxor 6 1\nxor 1 0\nand 4 8\nxor 9 0\nouts 7 10\n"},
		{2, "0-1", 2, "circuit 4 0\nxor 0 2\nnot 0\nand 5 2\nxor 1 6\nxor 3 6\nxor 7 3\nnot 7\nand 10 8\nxor 11 6\n" +
			"xor 0 2\nand 12 13\nxor 14 2\nxor 1 3\nand 12 16\nxor 17 3\nxor 2 0\nand 12 19\nxor 20 0\nxor 3 1\nand 12 22\nxor 23 1\nouts 15 18 21 24\n"},
		{3, "0-2", 1, "circuit 3 0\nxor 0 2\nnot 0\nand 4 2\nxor 0 2\nand 5 6\nxor 7 2\nxor 2 0\nand 5 9\nxor 10 0\nouts 8 1 11\n"},
		{3, "1-2 0-2", 1, "circuit 3 0\nxor 1 2\nnot 1\nand 4 2\nxor 1 2\nand 5 6\nxor 7 2\nxor 2 1\nand 5 9\nxor 10 1\n" +
			"xor 0 11\nnot 0\nand 13 11\nxor 0 11\nand 14 15\nxor 16 11\nxor 11 0\nand 14 18\nxor 19 0\nouts 17 8 20\n"},
		// The same step again has the numbers that the first one has made.
		{2, "0-1 0-1", 1, "circuit 2 0\nxor 0 1\nnot 0\nand 3 1\nxor 0 1\nand 4 5\nxor 6 1\nxor 1 0\nand 4 8\nxor 9 0\n" +
			"xor 7 10\nnot 7\nand 12 10\nxor 7 10\nand 13 14\nxor 15 10\nxor 10 7\nand 13 17\nxor 18 7\nouts 16 19\n"},
	} {
		c, ok := impl.NetworkCircuit(x.lines, stepsFrom(x.steps), x.w)
		if text, isCircuit := impl.CircuitText(c); !ok || !isCircuit || text != x.want {
			t.Errorf("NetworkCircuit of %d lines, %q and width %d is %q, %v, want %q", x.lines, x.steps, x.w, text, ok, x.want)
		}
	}
}

// hasCircuit reports whether there is a circuit of a network for numbers of a width.
func hasCircuit(n network, w int) bool {
	return w >= 1 && w <= 4 && n.lines*w <= 20 && len(n.steps)*gatesOfStep(w) <= 300
}

func checkNoNetworkCircuit(t *testing.T, n network, w int) {
	t.Helper()
	if c, ok := impl.NetworkCircuit(n.lines, n.steps, w); ok || !sameCircuit(c, impl.Circuit{}) {
		t.Errorf("NetworkCircuit(%v, %d) = %v, %v", n, w, c, ok)
	}
}

// networksAtLimits returns, for each number of lines, networks with all numbers of steps around those that a circuit can have.
func networksAtLimits() []network {
	networks := []network{}
	for lines := 1; lines <= 12; lines++ {
		for _, steps := range []int{0, 1, 2, 5, 6, 7, 8, 9, 10, 13, 14, 15, 32, 33, 34, 35, 59, 60} {
			networks = append(networks, sampleNetwork(lines, steps, 100*lines+steps))
		}
	}
	return networks
}

func TestNetworkCircuits(t *testing.T) {
	made, refused := 0, 0
	for _, n := range slices.Concat(networksAtLimits(), sampleNetworks(), allNetworks(3, 2), allNetworks(4, 2)) {
		for w := -1; w <= 21; w++ {
			if !hasCircuit(n, w) {
				refused++
				checkNoNetworkCircuit(t, n, w)
				continue
			}
			made++
			c, ok := impl.NetworkCircuit(n.lines, n.steps, w)
			checkIs(t, "NetworkCircuit", c, ok, networkCircuitByHand(n, w))
			if c.In0 != n.lines*w || c.In1 != 0 || len(c.Outs) != n.lines*w || len(c.Gates) != len(n.steps)*gatesOfStep(w) {
				t.Errorf("NetworkCircuit(%v, %d) has %d and %d inputs, %d gates and %d outs", n, w, c.In0, c.In1, len(c.Gates), len(c.Outs))
			}
		}
	}
	if made < 400 || refused < 400 {
		t.Errorf("%d circuits, and %d refused", made, refused)
	}
}

// The most steps of each width are met exactly, and one more is too many.
func TestNetworkCircuitsAtTheLimits(t *testing.T) {
	for w, most := range map[int]int{1: 33, 2: 14, 3: 9, 4: 6} {
		for lines := 2; lines <= 20/w && lines <= 12; lines++ {
			c, ok := impl.NetworkCircuit(lines, sampleNetwork(lines, most, lines).steps, w)
			if !ok || len(c.Gates) != most*gatesOfStep(w) {
				t.Errorf("NetworkCircuit of %d lines and width %d has %d gates, %v", lines, w, len(c.Gates), ok)
			}
			checkNoNetworkCircuit(t, sampleNetwork(lines, most+1, lines), w)
		}
	}
	for lines := 1; lines <= 12; lines++ {
		for w := 1; w <= 4; w++ {
			c, ok := impl.NetworkCircuit(lines, nil, w)
			if fits := lines*w <= 20; ok != fits || fits && !slices.Equal(c.Outs, wiresInOrder(0, lines*w)) {
				t.Errorf("NetworkCircuit of %d lines and width %d without steps = %v, %v", lines, w, c, ok)
			}
		}
	}
}

func TestWidthsOfNetworkCircuits(t *testing.T) {
	for lines := 1; lines <= 12; lines++ {
		for _, w := range append([]int{0, 5, 6, 16, 1 << 62, 1 << 61, 1<<62 + 1}, farInts...) {
			checkNoNetworkCircuit(t, network{lines: lines}, w)
			checkNoNetworkCircuit(t, sampleNetwork(lines, 1, lines), w)
		}
	}
}

// numbersAfter returns the outs of a circuit of a network for a list, as numbers.
func numbersAfter(t *testing.T, c impl.Circuit, x []int, w int) []int {
	t.Helper()
	inputs := []int{}
	for _, number := range x {
		inputs = append(inputs, bitsOfNumber(number, w)...)
	}
	outs, ok := impl.EvalCircuit(c, inputs, nil)
	if !ok || len(outs) != len(inputs) {
		t.Fatalf("outs of %v for %v: %v, %v", c, x, outs, ok)
	}
	after := []int{}
	for bits := range slices.Chunk(outs, w) {
		after = append(after, numberOfBits(bits))
	}
	return after
}

// eachNumbersFor calls visit with all lists of numbers of a width, or with some of them if there are many.
func eachNumbersFor(lines int, w int, visit func(x []int)) {
	if lines*w <= 10 {
		eachList(1<<w, lines, visit)
		return
	}
	for seed := range 200 {
		x := sampleNumbers(lines, 1000, seed)
		for i := range x {
			x[i] = (x[i] + 1000) % (1 << w)
		}
		visit(x)
	}
	visit(repeated(0, lines))
	visit(repeated(1<<w-1, lines))
}

// A circuit does what its network does, whether it sorts or not.
func TestNetworkCircuitsDoWhatNetworksDo(t *testing.T) {
	for _, n := range slices.Concat(sampleNetworks(), allNetworks(3, 3), allNetworks(4, 1)) {
		for w := 1; w <= 4; w++ {
			if !hasCircuit(n, w) {
				continue
			}
			c, _ := impl.NetworkCircuit(n.lines, n.steps, w)
			eachNumbersFor(n.lines, w, func(x []int) {
				want, ok := impl.SortWith(n.lines, n.steps, x)
				if after := numbersAfter(t, c, x, w); !ok || !slices.Equal(after, want) {
					t.Fatalf("the circuit of %v makes %v of %v, want %v", n, after, x, want)
				}
			})
		}
	}
}

func TestCircuitsOfNetworksThatSortSortNumbers(t *testing.T) {
	circuits := 0
	for _, n := range sortingNetworks() {
		if sorts, ok := impl.SortsAll(n.lines, n.steps); !sorts || !ok {
			t.Fatalf("SortsAll(%v) = %v, %v", n, sorts, ok)
		}
		for w := 1; w <= 4; w++ {
			c, ok := impl.NetworkCircuit(n.lines, n.steps, w)
			if ok != hasCircuit(n, w) {
				t.Fatalf("NetworkCircuit(%v, %d) = %v, %v", n, w, c, ok)
			}
			if !ok {
				continue
			}
			circuits++
			eachNumbersFor(n.lines, w, func(x []int) {
				if after := numbersAfter(t, c, x, w); !slices.Equal(after, slices.Sorted(slices.Values(x))) {
					t.Fatalf("the circuit of %v makes %v of %v", n, after, x)
				}
			})
		}
	}
	if circuits < 30 {
		t.Errorf("only %d circuits of networks that sort", circuits)
	}
}

// Pruned networks have the same outs with fewer gates.
func TestCircuitsOfPrunedNetworks(t *testing.T) {
	for _, n := range slices.Concat(sampleNetworks(), allNetworks(3, 4)) {
		pruned, _ := impl.PruneNetwork(n.lines, n.steps)
		c, ok := impl.NetworkCircuit(n.lines, n.steps, 1)
		if !ok || n.lines > 10 {
			continue
		}
		d, ok := impl.NetworkCircuit(n.lines, pruned, 1)
		if equal, are := impl.AreEqual(c, d); !ok || !equal || !are {
			t.Errorf("the circuits of %v and of %v are equal: %v, %v, %v", n, pruned, equal, are, ok)
		}
	}
}
