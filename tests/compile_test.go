package tests

import (
	"slices"
	"testing"

	"loop.example/g00877/impl"
)

func checkCompiled(t *testing.T, l []impl.Line) {
	t.Helper()
	want := compiledByHand(l)
	c, ok := impl.CompileProgram(l)
	if !validByHand(want.circuit) {
		want.circuit = impl.Circuit{}
	} else if !ok {
		t.Fatalf("CompileProgram(%v) fails", l)
	}
	if !sameCircuit(c, want.circuit) || ok && !impl.IsCircuit(c) {
		t.Fatalf("CompileProgram(%v) = %v, %v, want %v", l, c, ok, want.circuit)
	}
}

func TestCompiledPrograms(t *testing.T) {
	fine := 0
	programs := slices.Concat(samplePrograms(), compilableSamples(), noCompilable())
	for seed := range 1000 {
		programs = append(programs, sampleProgram(1+seed%30, 40, seed+4000))
	}
	for _, l := range programs {
		checkCompiled(t, l)
		if validByHand(compiledByHand(l).circuit) {
			fine++
		}
	}
	if fine < 500 || len(programs)-fine < 50 {
		t.Errorf("%d of %d programs have valid circuits", fine, len(programs))
	}
}

func TestCompiledOperationsAtAllWidths(t *testing.T) {
	for width := 1; width <= 10; width++ {
		for _, op := range opsInOrder {
			for _, l := range opProgram(op, width) {
				checkCompiled(t, l)
			}
		}
		checkCompiled(t, notProgram(width))
		checkCompiled(t, pickProgram(width))
		for value := range 1 << width {
			checkCompiled(t, constProgram(width, value))
		}
	}
}

// The texts of the circuits are worked out by hand from the document.
func TestCompiledGateByGate(t *testing.T) {
	for _, c := range []struct{ program, want string }{
		{"", "circuit 0 0\nouts\n"},
		{"input 0 x 3\nout x\n", "circuit 3 0\nouts 0 1 2\n"},
		{"input 1 y 2\ninput 0 x 1\ninput 1 z 1\ninput 0 w 2\nout z\nout y\nout w\nout x\nout z\n", "circuit 3 3\nouts 5 3 4 1 2 0 5\n"},
		{"const k 3 5\nout k\n", "circuit 0 0\none\nnot 0\nouts 0 1 0\n"},
		{"const k 2 3\nconst m 1 0\nout m\nout k\n", "circuit 0 0\none\nnot 0\none\nnot 2\nouts 3 0 0\n"},
		{"const k 1 1\n", "circuit 0 0\none\nnot 0\nouts\n"},
		{"input 0 x 1\ninput 1 y 1\nlet r x + y\nout r\n", "circuit 1 1\nxor 0 1\nand 0 1\nouts 2\n"},
		{"input 0 x 2\ninput 1 y 2\nlet r x + y\nout r\n", "circuit 2 2\nxor 0 2\nand 0 2\nxor 1 5\nxor 3 5\nxor 6 3\nand 6 7\nxor 9 5\nouts 4 8\n"},
		{"input 0 x 1\ninput 1 y 1\nlet r x - y\nout r\n", "circuit 1 1\nxor 0 1\nnot 0\nand 3 1\nouts 2\n"},
		{"input 0 x 1\ninput 1 y 1\nlet r y - x\nout r\n", "circuit 1 1\nxor 1 0\nnot 1\nand 3 0\nouts 2\n"},
		{"input 0 x 2\ninput 1 y 2\nlet r x - y\nout r\n", "circuit 2 2\nxor 0 2\nnot 0\nand 5 2\nxor 1 6\nxor 3 6\nxor 7 3\nnot 7\nand 10 8\nxor 11 6\nouts 4 9\n"},
		{"input 0 x 1\ninput 1 y 1\nlet r x < y\nout r\n", "circuit 1 1\nxor 0 1\nnot 0\nand 3 1\nouts 4\n"},
		{"input 0 x 2\ninput 1 y 2\nlet r x < y\nout r\n", "circuit 2 2\nxor 0 2\nnot 0\nand 5 2\nxor 1 6\nxor 3 6\nxor 7 3\nnot 7\nand 10 8\nxor 11 6\nouts 12\n"},
		{"input 0 x 1\ninput 1 y 1\nlet r x = y\nout r\n", "circuit 1 1\nxor 0 1\nnot 2\nouts 3\n"},
		{"input 0 x 3\ninput 1 y 3\nlet r x = y\nout r\n", "circuit 3 3\nxor 0 3\nnot 6\nxor 1 4\nnot 8\nxor 2 5\nnot 10\nand 7 9\nand 12 11\nouts 13\n"},
		{"input 0 x 1\ninput 1 y 1\nlet r x * y\nout r\n", "circuit 1 1\nand 0 1\none\nnot 3\nouts 2 4\n"},
		{"input 0 x 2\ninput 1 y 2\nlet r x * y\nout r\n",
			"circuit 2 2\nand 0 2\nand 1 2\none\nnot 6\nand 0 3\nand 1 3\nxor 5 8\nand 5 8\nxor 7 11\nxor 9 11\nxor 12 9\nand 12 13\nxor 15 11\nouts 4 10 14 16\n"},
		{"input 0 x 3\ninput 1 y 3\nlet r x * y\nout r\n",
			"circuit 3 3\nand 0 3\nand 1 3\nand 2 3\none\nnot 9\nand 0 4\nand 1 4\nand 2 4\nxor 7 11\nand 7 11\nxor 8 15\nxor 12 15\nxor 16 12\nand 16 17\nxor 19 15\n" +
				"xor 10 20\nxor 13 20\nxor 21 13\nand 21 22\nxor 24 20\nand 0 5\nand 1 5\nand 2 5\nxor 18 26\nand 18 26\nxor 23 30\nxor 27 30\nxor 31 27\nand 31 32\n" +
				"xor 34 30\nxor 25 35\nxor 28 35\nxor 36 28\nand 36 37\nxor 39 35\nouts 6 14 29 33 38 40\n"},
		{"input 0 x 2\ninput 1 y 2\nlet r x & y\nout r\n", "circuit 2 2\nand 0 2\nand 1 3\nouts 4 5\n"},
		{"input 0 x 2\ninput 1 y 2\nlet r y ^ x\nout r\n", "circuit 2 2\nxor 2 0\nxor 3 1\nouts 4 5\n"},
		{"input 0 x 2\ninput 1 y 2\nlet r x | y\nout r\n", "circuit 2 2\nxor 0 2\nand 0 2\nxor 4 5\nxor 1 3\nand 1 3\nxor 7 8\nouts 6 9\n"},
		{"input 1 x 2\nnot r x\nout r\n", "circuit 0 2\nnot 0\nnot 1\nouts 2 3\n"},
		{"input 0 x 2\ninput 0 y 2\ninput 1 s 1\npick r s x y\nout r\n", "circuit 4 1\nxor 0 2\nand 4 5\nxor 6 2\nxor 1 3\nand 4 8\nxor 9 3\nouts 7 10\n"},
		{"input 0 x 1\npick r x x x\nnot u r\nout u\nout x\n", "circuit 1 0\nxor 0 0\nand 0 1\nxor 2 0\nnot 3\nouts 4 0\n"},
		{"input 0 x 1\nlet r x ^ x\nlet s x & r\n", "circuit 1 0\nxor 0 0\nand 0 1\nouts\n"},
	} {
		l := programOf(t, c.program)
		compiled, ok := impl.CompileProgram(l)
		if text, isCircuit := impl.CircuitText(compiled); !ok || !isCircuit || text != c.want {
			t.Errorf("circuit of %q: %q, %v, want %q", c.program, text, ok, c.want)
		}
		checkCompiled(t, l)
	}
}

func TestLimitsOfCompiledPrograms(t *testing.T) {
	if c, ok := impl.CompileProgram(mostGates()); !ok || len(c.Gates) != impl.MaxGates {
		t.Errorf("%d gates, %v", len(c.Gates), ok)
	}
	if c, ok := impl.CompileProgram(mostOuts()); !ok || len(c.Outs) != impl.MaxOuts {
		t.Errorf("%d outs, %v", len(c.Outs), ok)
	}
	full := linesOf(inputLine(0, "a", 10), inputLine(1, "b", 10), inputLine(0, "c", 10), inputLine(1, "d", 10), twoLine("e", "a", "<", "d"), outLine("e"))
	if c, ok := impl.CompileProgram(full); !ok || c.In0 != 20 || c.In1 != 20 {
		t.Errorf("inputs %d and %d, %v", c.In0, c.In1, ok)
	}
	for _, l := range noCompilable() {
		if !impl.IsProgram(l) {
			t.Errorf("no program: %v", l)
		}
		if c, ok := impl.CompileProgram(l); ok || !sameCircuit(c, impl.Circuit{}) {
			t.Errorf("CompileProgram(%v) = %v, %v", l, c, ok)
		}
	}
}

func TestLinesOfGates(t *testing.T) {
	for _, l := range compilableSamples() {
		want := compiledByHand(l)
		for k, line := range want.makers {
			if i, ok := impl.LineOfGate(l, k); !ok || i != line {
				t.Fatalf("LineOfGate(%v, %d) = %d, %v, want %d", l, k, i, ok, line)
			}
		}
		for _, k := range []int{len(want.makers), len(want.makers) + 1, 300, 301, -1, farInts[11], farInts[12], farInts[13]} {
			if k >= 0 && k < len(want.makers) {
				continue
			}
			if i, ok := impl.LineOfGate(l, k); ok || i != 0 {
				t.Errorf("LineOfGate(%v, %d) = %d, %v", l, k, i, ok)
			}
		}
	}
	l := programOf(t, "input 0 x 1\nout x\nconst k 1 1\nout k\nlet r x - k\ninput 1 y 1\nnot n y\nout n\n")
	for k, line := range []int{2, 2, 4, 4, 4, 6} {
		if i, ok := impl.LineOfGate(l, k); !ok || i != line {
			t.Errorf("gate %d is of line %d, %v, want %d", k, i, ok, line)
		}
	}
	for _, k := range []int{-1, 6} {
		if i, ok := impl.LineOfGate(l, k); ok || i != 0 {
			t.Errorf("gate %d is of line %d", k, i)
		}
	}
}

func TestAndsOfLines(t *testing.T) {
	for _, l := range compilableSamples() {
		h := compiledByHand(l)
		want, all := make([]int, len(l)), 0
		for k, line := range h.makers {
			if h.circuit.Gates[k].Kind == impl.GtAnd {
				want[line]++
				all++
			}
		}
		ands, ok := impl.AndsByLine(l)
		if !ok || !slices.Equal(ands, want) {
			t.Errorf("AndsByLine(%v) = %v, %v, want %v", l, ands, ok, want)
		}
		if counts, ok := impl.CountGates(h.circuit); !ok || counts[impl.GtAnd] != all {
			t.Errorf("%d gates GtAnd of %v, and %v", all, l, counts)
		}
	}
	for width := 1; width <= 10; width++ {
		for op, want := range map[string]int{"+": width, "-": width, "<": width, "=": width - 1, "&": width, "|": width, "^": 0, "*": width*width + (width-1)*width} {
			for _, l := range opProgram(op, width) {
				if ands, ok := impl.AndsByLine(l); !ok || ands[len(l)-2] != want || ands[0] != 0 || ands[len(l)-1] != 0 {
					t.Errorf("%s of width %d: %v, %v, want %d", op, width, ands, ok, want)
				}
			}
		}
		if ands, ok := impl.AndsByLine(pickProgram(width)); !ok || !slices.Equal(ands, []int{0, 0, 0, width, 0}) {
			t.Errorf("choosing of width %d: %v, %v", width, ands, ok)
		}
	}
}
