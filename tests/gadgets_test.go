package tests

import (
	"slices"

	"loop.example/g00877/impl"
)

// gadget is one of the seven gadgets of a width: what makes its circuit, and what it is by hand.
type gadget struct {
	name   string
	make   func(w int) (impl.Circuit, bool)
	widest int
	ands   func(w int) int
	number func(w int, a int, b int) int
}

// gadgets are in the order of the kinds of AndsOf.
func gadgets() []gadget {
	once := func(w int) int { return w }
	return []gadget{
		{"AdderCircuit", impl.AdderCircuit, 8, once, func(_ int, a int, b int) int { return a + b }},
		{"SubtractCircuit", impl.SubtractCircuit, 8, once, func(w int, a int, b int) int {
			if a < b {
				// The borrow is the bit behind the difference, which is short of 2^w.
				return a - b + 1<<w + 1<<w
			}
			return a - b
		}},
		{"LessCircuit", impl.LessCircuit, 8, once, func(_ int, a int, b int) int { return oneIf(a < b) }},
		{"EqualCircuit", impl.EqualCircuit, 8, func(w int) int { return w - 1 }, func(_ int, a int, b int) int { return oneIf(a == b) }},
		{"ChooseCircuit", impl.ChooseCircuit, 8, once, func(w int, a int, b int) int {
			return []int{a / (1 << w), a % (1 << w)}[b]
		}},
		{"GreatestCircuit", impl.GreatestCircuit, 8, func(w int) int { return 2 * w }, func(_ int, a int, b int) int { return max(a, b) }},
		{"ProductCircuit", impl.ProductCircuit, 5, func(w int) int { return w*w + (w-1)*w }, func(_ int, a int, b int) int { return a * b }},
	}
}

func oneIf(is bool) int {
	if is {
		return 1
	}
	return 0
}

// gadgetByHand returns the circuit of a gadget, made from the texts of its gates.
func gadgetByHand(name string, w int) impl.Circuit {
	h := handCompiler{circuit: impl.Circuit{In0: w, In1: w}}
	if name == "ChooseCircuit" {
		h.circuit = impl.Circuit{In0: 2 * w, In1: 1}
	}
	a, b := wiresInOrder(0, w), wiresInOrder(w, w)
	outs, last := []int{}, 0
	switch name {
	case "AdderCircuit":
		outs, last = h.ripple(addFirstByHand, addNextByHand, a, b, 0)
		outs = append(outs, last)
	case "SubtractCircuit":
		outs, last = h.ripple(subtractFirstByHand, subtractNextByHand, a, b, 0)
		outs = append(outs, last)
	case "LessCircuit":
		outs = h.two("<", a, b)
	case "EqualCircuit":
		outs = h.two("=", a, b)
	case "ChooseCircuit":
		outs, _ = h.ripple(chooseByHand, chooseByHand, a, b, 2*w)
	case "GreatestCircuit":
		_, last = h.ripple(subtractFirstByHand, subtractNextByHand, a, b, 0)
		outs, _ = h.ripple(chooseByHand, chooseByHand, b, a, last)
	case "ProductCircuit":
		outs = h.product(a, b)
		if w == 1 {
			outs, h.circuit.Gates = outs[:1], h.circuit.Gates[:1]
		}
	}
	h.circuit.Outs = outs
	return h.circuit
}

func wiresInOrder(first int, n int) []int {
	wires := []int{}
	for i := range n {
		wires = append(wires, first+i)
	}
	return wires
}

// countByHand returns the circuit that counts n bits. Its number gets a bit where the bits so far are as many as a power of 2.
func countByHand(n int) impl.Circuit {
	h := handCompiler{circuit: impl.Circuit{In0: n}}
	number := []int{0}
	for x := 1; x < n; x++ {
		text := "s=a^c;c=a&c"
		sums, carry := h.ripple(text, text, number, number, x)
		if slices.Contains([]int{2, 4, 8, 16}, x+1) {
			sums = append(sums, carry)
		}
		number = sums
	}
	h.circuit.Outs = number
	return h.circuit
}

// constantByHand returns the circuit of a number from the digits of its text to the base 2.
func constantByHand(digits string) impl.Circuit {
	h := handCompiler{}
	names := map[string]int{}
	h.run(oneByHand, names)
	for i := range digits {
		digit := digits[len(digits)-1-i]
		h.circuit.Outs = append(h.circuit.Outs, names[map[byte]string{'0': "z", '1': "o"}[digit]])
	}
	return h.circuit
}

// eachPairOfInputs calls visit with all numbers of the inputs of both parties.
func eachPairOfInputs(c impl.Circuit, visit func(a int, b int)) {
	for a := range 1 << c.In0 {
		for b := range 1 << c.In1 {
			visit(a, b)
		}
	}
}

// bitsOfNumber returns the lowest bits of a number.
func bitsOfNumber(n int, width int) []int {
	bits := []int{}
	for range width {
		bits = append(bits, n%2)
		n /= 2
	}
	return bits
}

// numberOfBits is the number of any list of bits.
func numberOfBits(bits []int) int {
	n := 0
	for _, bit := range slices.Backward(bits) {
		n = 2*n + bit
	}
	return n
}
