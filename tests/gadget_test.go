package tests

import (
	"math/bits"
	"slices"
	"strconv"
	"strings"
	"testing"

	"loop.example/g00877/impl"
)

func TestGadgetLimits(t *testing.T) {
	if impl.MaxOperand != 8 || impl.MaxWidth != 16 {
		t.Error("constants", impl.MaxOperand, impl.MaxWidth)
	}
}

// checkIs fails unless a call succeeded with a circuit.
func checkIs(t *testing.T, call string, c impl.Circuit, ok bool, want impl.Circuit) {
	t.Helper()
	if !ok || !sameCircuit(c, want) || !impl.IsCircuit(c) || !validByHand(c) {
		t.Fatalf("%s = %v, %v, want %v", call, c, ok, want)
	}
}

// checkNone fails if a call succeeded, or has a result.
func checkNone(t *testing.T, call string, c impl.Circuit, ok bool) {
	t.Helper()
	if ok || !sameCircuit(c, impl.Circuit{}) {
		t.Errorf("%s = %v, %v", call, c, ok)
	}
}

func TestGadgetsAtAllWidths(t *testing.T) {
	for _, g := range gadgets() {
		for w := 1; w <= g.widest; w++ {
			c, ok := g.make(w)
			checkIs(t, g.name, c, ok, gadgetByHand(g.name, w))
		}
		for _, w := range append([]int{0, g.widest + 1, 9, 10, 16, 17, 20, 21}, farInts...) {
			c, ok := g.make(w)
			checkNone(t, g.name+" of "+strconv.Itoa(w), c, ok)
		}
	}
}

// The texts of the circuits are worked out by hand from the document.
func TestGadgetsGateByGate(t *testing.T) {
	subtractTwo := "xor 0 2\nnot 0\nand 5 2\nxor 1 6\nxor 3 6\nxor 7 3\nnot 7\nand 10 8\nxor 11 6\n"
	for _, x := range []struct {
		name string
		w    int
		want string
	}{
		{"AdderCircuit", 1, "circuit 1 1\nxor 0 1\nand 0 1\nouts 2 3\n"},
		{"AdderCircuit", 2, "circuit 2 2\nxor 0 2\nand 0 2\nxor 1 5\nxor 3 5\nxor 6 3\nand 6 7\nxor 9 5\nouts 4 8 10\n"},
		{"AdderCircuit", 3, "circuit 3 3\nxor 0 3\nand 0 3\nxor 1 7\nxor 4 7\nxor 8 4\nand 8 9\nxor 11 7\nxor 2 12\nxor 5 12\nxor 13 5\nand 13 14\nxor 16 12\nouts 6 10 15 17\n"},
		{"SubtractCircuit", 1, "circuit 1 1\nxor 0 1\nnot 0\nand 3 1\nouts 2 4\n"},
		{"SubtractCircuit", 2, "circuit 2 2\n" + subtractTwo + "outs 4 9 12\n"},
		{"LessCircuit", 1, "circuit 1 1\nxor 0 1\nnot 0\nand 3 1\nouts 4\n"},
		{"LessCircuit", 2, "circuit 2 2\n" + subtractTwo + "outs 12\n"},
		{"EqualCircuit", 1, "circuit 1 1\nxor 0 1\nnot 2\nouts 3\n"},
		{"EqualCircuit", 2, "circuit 2 2\nxor 0 2\nnot 4\nxor 1 3\nnot 6\nand 5 7\nouts 8\n"},
		{"EqualCircuit", 3, "circuit 3 3\nxor 0 3\nnot 6\nxor 1 4\nnot 8\nxor 2 5\nnot 10\nand 7 9\nand 12 11\nouts 13\n"},
		{"ChooseCircuit", 1, "circuit 2 1\nxor 0 1\nand 2 3\nxor 4 1\nouts 5\n"},
		{"ChooseCircuit", 2, "circuit 4 1\nxor 0 2\nand 4 5\nxor 6 2\nxor 1 3\nand 4 8\nxor 9 3\nouts 7 10\n"},
		{"GreatestCircuit", 1, "circuit 1 1\nxor 0 1\nnot 0\nand 3 1\nxor 1 0\nand 4 5\nxor 6 0\nouts 7\n"},
		{"GreatestCircuit", 2, "circuit 2 2\n" + subtractTwo + "xor 2 0\nand 12 13\nxor 14 0\nxor 3 1\nand 12 16\nxor 17 1\nouts 15 18\n"},
		{"ProductCircuit", 1, "circuit 1 1\nand 0 1\nouts 2\n"},
		{"ProductCircuit", 2, "circuit 2 2\nand 0 2\nand 1 2\none\nnot 6\nand 0 3\nand 1 3\nxor 5 8\nand 5 8\nxor 7 11\nxor 9 11\nxor 12 9\nand 12 13\nxor 15 11\nouts 4 10 14 16\n"},
		{"CountCircuit", 1, "circuit 1 0\nouts 0\n"},
		{"CountCircuit", 2, "circuit 2 0\nxor 0 1\nand 0 1\nouts 2 3\n"},
		{"CountCircuit", 3, "circuit 3 0\nxor 0 1\nand 0 1\nxor 3 2\nand 3 2\nxor 4 6\nand 4 6\nouts 5 7\n"},
		{"CountCircuit", 4, "circuit 4 0\nxor 0 1\nand 0 1\nxor 4 2\nand 4 2\nxor 5 7\nand 5 7\nxor 6 3\nand 6 3\nxor 8 11\nand 8 11\nouts 10 12 13\n"},
		{"constant 0", 1, "circuit 0 0\none\nnot 0\nouts 1\n"},
		{"constant 1", 1, "circuit 0 0\none\nnot 0\nouts 0\n"},
		{"constant 5", 4, "circuit 0 0\none\nnot 0\nouts 0 1 0 1\n"},
	} {
		c, ok := sizedCircuit(x.name, x.w)
		if text, isCircuit := impl.CircuitText(c); !ok || !isCircuit || text != x.want {
			t.Errorf("%s of %d is %q, %v, want %q", x.name, x.w, text, ok, x.want)
		}
	}
}

// sizedCircuit returns any circuit of the chapter by its name.
func sizedCircuit(name string, w int) (impl.Circuit, bool) {
	if digits, isConstant := strings.CutPrefix(name, "constant "); isConstant {
		n, _ := strconv.Atoi(digits)
		return impl.ConstantCircuit(n, w)
	}
	if name == "CountCircuit" {
		return impl.CountCircuit(w)
	}
	for _, g := range gadgets() {
		if g.name == name {
			return g.make(w)
		}
	}
	return impl.Circuit{}, false
}

func TestGadgetsCompute(t *testing.T) {
	for _, g := range gadgets() {
		for w := 1; w <= g.widest; w++ {
			c, _ := g.make(w)
			eachPairOfInputs(c, func(a int, b int) {
				want := g.number(w, a, b)
				if n, ok := impl.RunWith(c, a, b); !ok || n != want {
					t.Fatalf("%s of width %d of %d and %d: %d, %v, want %d", g.name, w, a, b, n, ok, want)
				}
				if w > 5 {
					return
				}
				outs, ok := impl.EvalCircuit(c, bitsOfNumber(a, c.In0), bitsOfNumber(b, c.In1))
				if !ok || !slices.Equal(outs, bitsOfNumber(want, len(c.Outs))) {
					t.Fatalf("outs of %s of width %d for %d and %d: %v, %v", g.name, w, a, b, outs, ok)
				}
			})
		}
	}
}

func TestInputsAndOutsOfGadgets(t *testing.T) {
	for w := 1; w <= 8; w++ {
		wants := map[string][3]int{
			"AdderCircuit": {w, w, w + 1}, "SubtractCircuit": {w, w, w + 1}, "LessCircuit": {w, w, 1}, "EqualCircuit": {w, w, 1},
			"ChooseCircuit": {2 * w, 1, w}, "GreatestCircuit": {w, w, w},
		}
		if w <= 5 {
			wants["ProductCircuit"] = [3]int{w, w, []int{1, 4, 6, 8, 10}[w-1]}
		}
		for name, want := range wants {
			c, ok := sizedCircuit(name, w)
			if !ok || [3]int{c.In0, c.In1, len(c.Outs)} != want {
				t.Errorf("%s of width %d has %d and %d inputs and %d outs, %v, want %v", name, w, c.In0, c.In1, len(c.Outs), ok, want)
			}
		}
	}
}

// LessCircuit is SubtractCircuit but for its outs, and differences are those modulo 2^w.
func TestBorrowsCompare(t *testing.T) {
	for w := 1; w <= 8; w++ {
		less, _ := impl.LessCircuit(w)
		subtract, _ := impl.SubtractCircuit(w)
		if !slices.Equal(less.Gates, subtract.Gates) || !slices.Equal(less.Outs, subtract.Outs[len(subtract.Outs)-1:]) {
			t.Errorf("LessCircuit(%d) = %v, but SubtractCircuit is %v", w, less, subtract)
		}
		for a := range 1 << w {
			b := (a*37 + w) % (1 << w)
			outs, ok := impl.EvalCircuit(subtract, bitsOfNumber(a, w), bitsOfNumber(b, w))
			if !ok || len(outs) != w+1 || (outs[w] == 1) != (a < b) || (numberOfBits(outs[:w])+b)%(1<<w) != a {
				t.Errorf("%d minus %d of width %d: %v, %v", a, b, w, outs, ok)
			}
		}
	}
}

func TestCountsCount(t *testing.T) {
	for n := 1; n <= 16; n++ {
		c, ok := impl.CountCircuit(n)
		checkIs(t, "CountCircuit", c, ok, countByHand(n))
		if c.In0 != n || c.In1 != 0 || len(c.Outs) != bits.Len(uint(n)) {
			t.Errorf("CountCircuit(%d) has %d and %d inputs and %d outs", n, c.In0, c.In1, len(c.Outs))
		}
		for a := range 1 << n {
			if count, ok := impl.RunWith(c, a, 0); !ok || count != bits.OnesCount(uint(a)) {
				t.Fatalf("bits of %d among %d: %d, %v", a, n, count, ok)
			}
		}
		if count, ok := impl.RunWith(c, 0, 1); ok || count != 0 {
			t.Errorf("CountCircuit(%d) takes an input of party 1: %d", n, count)
		}
	}
	for _, n := range append([]int{0, 17, 18, 20, 21}, farInts...) {
		c, ok := impl.CountCircuit(n)
		checkNone(t, "CountCircuit of "+strconv.Itoa(n), c, ok)
	}
}

func TestConstants(t *testing.T) {
	for w := 1; w <= 16; w++ {
		for n := range 1 << w {
			if w > 10 && n > 40 && n < 1<<w-40 && n%997 != 0 {
				continue
			}
			digits := strconv.FormatInt(int64(n), 2)
			c, ok := impl.ConstantCircuit(n, w)
			checkIs(t, "ConstantCircuit", c, ok, constantByHand(strings.Repeat("0", w-len(digits))+digits))
			if counts, ok := impl.CountGates(c); !ok || !slices.Equal(counts, []int{0, 0, 1, 1}) {
				t.Fatalf("gates of the constant %d of width %d: %v, %v", n, w, counts, ok)
			}
			if got, ok := impl.RunWith(c, 0, 0); !ok || got != n {
				t.Fatalf("the constant %d of width %d is %d, %v", n, w, got, ok)
			}
		}
		for _, n := range []int{-1, -2, 1 << w, 1<<w + 1, 1 << 32, 1 << 62, farInts[11], farInts[12], farInts[13]} {
			c, ok := impl.ConstantCircuit(n, w)
			checkNone(t, "ConstantCircuit of "+strconv.Itoa(n), c, ok)
		}
	}
	for _, w := range append([]int{0, 17, 18, 40, 41}, farInts...) {
		for _, n := range []int{-1, 0, 1, 2, 65535, 65536, 1 << 17} {
			c, ok := impl.ConstantCircuit(n, w)
			checkNone(t, "ConstantCircuit of the width "+strconv.Itoa(w), c, ok)
		}
	}
}

func TestAndsAreCounted(t *testing.T) {
	for kind, g := range gadgets() {
		for w := 1; w <= g.widest; w++ {
			c, _ := g.make(w)
			counts, ok := impl.CountGates(c)
			if ands, done := impl.AndsOf(kind, w); !ok || !done || ands != g.ands(w) || ands != counts[impl.GtAnd] {
				t.Errorf("AndsOf(%d, %d) = %d, %v, want %d; the gates are %v", kind, w, ands, done, g.ands(w), counts)
			}
		}
		for _, w := range append([]int{0, g.widest + 1, 9, 10, 16, 17}, farInts...) {
			checkNoAnds(t, kind, w)
		}
	}
	for _, kind := range append([]int{7, 8, 9}, farInts...) {
		for _, w := range append([]int{0, 1, 2, 5, 6, 8, 9}, farInts...) {
			checkNoAnds(t, kind, w)
		}
	}
}

func checkNoAnds(t *testing.T, kind int, w int) {
	t.Helper()
	if ands, ok := impl.AndsOf(kind, w); ok || ands != 0 {
		t.Errorf("AndsOf(%d, %d) = %d, %v", kind, w, ands, ok)
	}
}

func TestGadgetExample(t *testing.T) {
	if n, ok := impl.AndsOf(0, 4); n != 4 || !ok {
		t.Errorf("gates GtAnd of the adder of width 4: %d, %v", n, ok)
	}
	for _, x := range []struct {
		name       string
		w, a, b, n int
	}{{"AdderCircuit", 4, 9, 8, 17}, {"ProductCircuit", 3, 7, 6, 42}, {"GreatestCircuit", 3, 2, 5, 5}, {"CountCircuit", 5, 27, 0, 4}} {
		c, _ := sizedCircuit(x.name, x.w)
		if n, ok := impl.RunWith(c, x.a, x.b); n != x.n || !ok {
			t.Errorf("%s of %d for %d and %d: %d, %v, want %d", x.name, x.w, x.a, x.b, n, ok, x.n)
		}
	}
}
