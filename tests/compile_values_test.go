package tests

import (
	"slices"
	"testing"

	"loop.example/g00877/impl"
)

// bitsByHand returns the bits of numbers, one number after the other, from the lowest bits on.
func bitsByHand(numbers []int, widths []int) []int {
	bits := []int{}
	for i, number := range numbers {
		for range widths[i] {
			bits = append(bits, number%2)
			number /= 2
		}
	}
	return bits
}

// widthsOfResults returns the widths of the results of a program.
func widthsOfResults(l []impl.Line) []int {
	names, _ := programByHand(l)
	widths := []int{}
	for _, line := range l {
		if line.Kind == 6 {
			widths = append(widths, names[line.Parts[0]])
		}
	}
	return widths
}

func sumOf(l []int) int {
	sum := 0
	for _, n := range l {
		sum += n
	}
	return sum
}

// checkAllValues checks the values of a program's circuit for all inputs or some.
func checkAllValues(t *testing.T, l []impl.Line) {
	t.Helper()
	wires := namedWires(l)
	eachNumbers(l, func(a []int, b []int) { checkCompiledValues(t, l, wires, a, b) })
}

// namedWires returns the wires of all names, by lines.
func namedWires(l []impl.Line) [][]int {
	all := make([][]int, len(l))
	for i, line := range l {
		all[i], _ = impl.WiresOf(l, line.Name)
	}
	return all
}

// checkCompiledValues checks that the circuit, alone and by RunCompiled, gives the results of a program, and wires the values of names.
func checkCompiledValues(t *testing.T, l []impl.Line, wires [][]int, a []int, b []int) {
	t.Helper()
	values := numbersByHand(l, a, b)
	want := ofResults(l, values)
	if results, ok := impl.RunCompiled(l, a, b); !ok || !slices.Equal(results, want) {
		t.Fatalf("RunCompiled(%v, %v, %v) = %v, %v, want %v", l, a, b, results, ok, want)
	}
	if results, ok := impl.RunProgram(l, a, b); !ok || !slices.Equal(results, want) {
		t.Fatalf("RunProgram(%v, %v, %v) = %v, %v, want %v", l, a, b, results, ok, want)
	}
	c, _ := impl.CompileProgram(l)
	first, ok := impl.InputBits(l, 0, a)
	if !ok || !slices.Equal(first, bitsByHand(a, widthsOfInputs(l, 0))) {
		t.Fatalf("InputBits(%v, 0, %v) = %v, %v", l, a, first, ok)
	}
	second, ok := impl.InputBits(l, 1, b)
	if !ok || !slices.Equal(second, bitsByHand(b, widthsOfInputs(l, 1))) {
		t.Fatalf("InputBits(%v, 1, %v) = %v, %v", l, b, second, ok)
	}
	outs, ok := impl.EvalCircuit(c, first, second)
	if !ok || !slices.Equal(outs, bitsByHand(want, widthsOfResults(l))) {
		t.Fatalf("the circuit of %v gives %v, %v for %v and %v", l, outs, ok, a, b)
	}
	if results, ok := impl.ResultNumbers(l, outs); !ok || !slices.Equal(results, want) {
		t.Fatalf("ResultNumbers(%v, %v) = %v, %v, want %v", l, outs, results, ok, want)
	}
	carried, ok := impl.WireValues(c, first, second)
	if !ok {
		t.Fatalf("no values of %v", c)
	}
	checkNamedWires(t, l, wires, carried, values)
}

func checkNamedWires(t *testing.T, l []impl.Line, wires [][]int, carried []int, values []int) {
	t.Helper()
	widths, _ := programByHand(l)
	for i, line := range l {
		if line.Kind == 6 {
			continue
		}
		bits := []int{}
		for _, wire := range wires[i] {
			bits = append(bits, carried[wire])
		}
		if !slices.Equal(bits, bitsByHand(values[i:i+1], []int{widths[line.Name]})) {
			t.Fatalf("wires %v of %s in %v carry %v, want those of %d", wires[i], line.Name, l, bits, values[i])
		}
	}
}

func TestCompiledProgramsComputeResults(t *testing.T) {
	for _, l := range compilableSamples() {
		checkAllValues(t, l)
	}
}

// All pairs of small numbers, and pairs of great ones.
func TestCompiledOperations(t *testing.T) {
	for width := 1; width <= 10; width++ {
		step := 1<<width/9 | 1
		programs := [][]impl.Line{notProgram(width), pickProgram(width)}
		for _, op := range opsInOrder {
			programs = append(programs, opProgram(op, width)...)
		}
		for _, l := range programs {
			wires := namedWires(l)
			for n := 0; n < 1<<width; n += step {
				for m := 1<<width - 1; m >= 0; m -= step {
					a := numbersWithin(widthsOfInputs(l, 0), n)
					b := numbersWithin(widthsOfInputs(l, 1), m|n%2<<width)
					checkCompiledValues(t, l, wires, a, b)
				}
			}
		}
	}
	for width := 1; width <= 5; width++ {
		l := opProgram("*", width)[0]
		for n := range 1 << (2 * width) {
			x, y := n%(1<<width), n>>width
			if results, ok := impl.RunCompiled(l, []int{x}, []int{y}); !ok || !slices.Equal(results, []int{x * y}) {
				t.Fatalf("%d * %d = %v, %v", x, y, results, ok)
			}
		}
	}
	for width := 1; width <= 10; width++ {
		for _, value := range []int{0, 1, 1<<width - 1, 1 << (width - 1)} {
			checkAllValues(t, constProgram(width, value))
		}
	}
}

func TestWiresOfNames(t *testing.T) {
	for _, l := range compilableSamples() {
		want := compiledByHand(l).wires
		for _, name := range append([]string{"", "none", "toolong", "A", " ", "x\n", "nope"}, sampleNames...) {
			if wires, ok := impl.WiresOf(l, name); ok != (len(want[name]) > 0) || !slices.Equal(wires, want[name]) {
				t.Errorf("WiresOf(%v, %q) = %v, %v, want %v", l, name, wires, ok, want[name])
			}
		}
	}
	l := programOf(t, "input 1 y 2\nconst k 2 1\ninput 0 x 2\nlet m x * y\nlet l x < y\nlet e x = y\nout l\n")
	for name, want := range map[string][]int{"x": {0, 1}, "y": {2, 3}, "k": {4, 5}, "m": {6, 12, 16, 18}, "l": {27}, "e": {32}} {
		if wires, ok := impl.WiresOf(l, name); !ok || !slices.Equal(wires, want) {
			t.Errorf("WiresOf(%q) = %v, %v, want %v", name, wires, ok, want)
		}
	}
}

// eachMisfit calls visit with lists that are not as many numbers as there are widths, or of which one is not within its width.
func eachMisfit(numbers []int, widths []int, visit func(l []int)) {
	visit(append(slices.Clone(numbers), 0))
	visit(slices.Concat([]int{0}, numbers))
	visit(repeated(0, 60000))
	for i := range numbers {
		visit(numbers[:i])
		for _, n := range []int{-1, -2, 1 << widths[i], 1<<widths[i] + 1, 1 << 32, 1 << 62, farInts[11], farInts[12], farInts[13]} {
			l := slices.Clone(numbers)
			l[i] = n
			visit(l)
		}
	}
}

func TestInputBits(t *testing.T) {
	l := programOf(t, "input 1 y 2\ninput 0 x 3\ninput 1 z 1\ninput 0 w 2\nout z\n")
	if bits, ok := impl.InputBits(l, 0, []int{6, 1}); !ok || !slices.Equal(bits, []int{0, 1, 1, 1, 0}) {
		t.Error("bits of party 0:", bits, ok)
	}
	if bits, ok := impl.InputBits(l, 1, []int{1, 1}); !ok || !slices.Equal(bits, []int{1, 0, 1}) {
		t.Error("bits of party 1:", bits, ok)
	}
	for _, l := range compilableSamples() {
		for party := range 2 {
			values := fittingNumbers(l, party)
			if bits, ok := impl.InputBits(l, party, values); !ok || !slices.Equal(bits, repeated(1, sumOf(widthsOfInputs(l, party)))) {
				t.Errorf("InputBits(%v, %d, %v) = %v, %v", l, party, values, bits, ok)
			}
			eachMisfit(values, widthsOfInputs(l, party), func(m []int) {
				if bits, ok := impl.InputBits(l, party, m); ok || len(bits) != 0 {
					t.Errorf("InputBits(%v, %d, %v) = %v, %v", l, party, m, bits, ok)
				}
			})
		}
		for _, party := range append([]int{2, 3}, farInts...) {
			for _, values := range [][]int{nil, {0}, fittingNumbers(l, 0), fittingNumbers(l, 1)} {
				if bits, ok := impl.InputBits(l, party, values); ok || len(bits) != 0 {
					t.Errorf("InputBits(%v, %d, %v) = %v, %v", l, party, values, bits, ok)
				}
			}
		}
	}
}

func TestResultNumbers(t *testing.T) {
	l := programOf(t, "input 0 x 3\nconst k 1 1\nlet r x * x\n")
	l = linesOf(l[0], l[1], inputLine(1, "y", 2), outLine("y"), outLine("k"), outLine("x"))
	if n, ok := impl.ResultNumbers(l, []int{0, 1, 1, 1, 0, 1}); !ok || !slices.Equal(n, []int{2, 1, 5}) {
		t.Error("numbers", n, ok)
	}
	for i, l := range compilableSamples() {
		widths := widthsOfResults(l)
		bits := sampleBits(sumOf(widths), i)
		numbers, ok := impl.ResultNumbers(l, bits)
		if !ok || len(numbers) != len(widths) || !slices.Equal(bitsByHand(numbers, widths), bits) {
			t.Errorf("ResultNumbers(%v, %v) = %v, %v", l, bits, numbers, ok)
		}
		wrong := [][]int{append(slices.Clone(bits), 0), repeated(0, 60000), repeated(0, 65)}
		for i := range bits {
			wrong = append(wrong, bits[:i])
			for _, n := range []int{-1, 2, 3, farInts[11], farInts[13]} {
				wrong = append(wrong, slices.Concat(bits[:i], []int{n}, bits[i+1:]))
			}
		}
		for _, m := range wrong {
			if numbers, ok := impl.ResultNumbers(l, m); ok || len(numbers) != 0 {
				t.Errorf("ResultNumbers(%v, %v) = %v, %v", l, m, numbers, ok)
			}
		}
	}
}

func TestInputsOfCompiledProgramsRefused(t *testing.T) {
	check := func(l []impl.Line, a []int, b []int) {
		if results, ok := impl.RunCompiled(l, a, b); ok || len(results) != 0 {
			t.Errorf("RunCompiled(%v, %v, %v) = %v, %v", l, a, b, results, ok)
		}
	}
	for _, l := range compilableSamples() {
		a, b := fittingNumbers(l, 0), fittingNumbers(l, 1)
		eachMisfit(a, widthsOfInputs(l, 0), func(m []int) { check(l, m, b) })
		eachMisfit(b, widthsOfInputs(l, 1), func(m []int) { check(l, a, m) })
	}
	check(nil, []int{0}, nil)
	check(nil, nil, []int{0})
	check(exampleProgram(), []int{5, 6}, nil)
}
