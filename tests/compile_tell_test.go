package tests

import (
	"slices"
	"testing"

	"loop.example/g00877/impl"
)

// tellingPrograms have at most 10 bits of input of each party.
func tellingPrograms() [][]impl.Line {
	programs := slices.DeleteFunc(compilableSamples(), func(l []impl.Line) bool {
		return sumOf(widthsOfInputs(l, 0))+sumOf(widthsOfInputs(l, 1)) > 6
	})
	return append(programs, withBits(5, 5), withBits(9, 1), withBits(1, 9), withBits(10, 0), withBits(0, 10), withBits(4, 3))
}

// withBits returns a program of inputs with that many bits of the parties, 20 at most of each; a result for each input says whether it is less than with all bits exchanged.
func withBits(first int, second int) []impl.Line {
	l := linesOf(constLine("s", 1, 1))
	for i, bits := range []int{first, second} {
		for bits > 0 {
			width := min(bits, 10)
			name := string(rune('a' + len(l)))
			l = append(l, inputLine(i, name, width), notLine(name+"n", name), twoLine(name+"f", name, "<", name+"n"))
			l = append(l, twoLine("s"+name, "s", "&", name+"f"), outLine("s"+name))
			bits -= width
		}
	}
	return l
}

// resultKey makes a key of a map of results.
func resultKey(results []int) string {
	key := ""
	for _, n := range results {
		key += string(rune('0'+n)) + "/"
	}
	return key
}

// eachInput calls visit with all inputs of a party, and with their numbers.
func eachInput(widths []int, visit func(n int, numbers []int)) {
	for n := range 1 << sumOf(widths) {
		visit(n, numbersWithin(widths, n))
	}
}

// otherResults returns lists of results, within their widths, that the program may not have.
func otherResults(l []impl.Line) [][]int {
	lists := [][]int{}
	widths := widthsOfResults(l)
	for n := range 4 {
		results := make([]int, len(widths))
		for i, width := range widths {
			results[i] = (n * (1<<width - 1) / 3) & (1<<width - 1)
		}
		lists = append(lists, results)
	}
	return lists
}

func TestCountInputsFor(t *testing.T) {
	for _, l := range tellingPrograms() {
		counts, lists := map[string]int{}, otherResults(l)
		eachInput(widthsOfInputs(l, 0), func(_ int, a []int) {
			eachInput(widthsOfInputs(l, 1), func(_ int, b []int) {
				results := ofResults(l, numbersByHand(l, a, b))
				if counts[resultKey(results)] == 0 {
					lists = append(lists, results)
				}
				counts[resultKey(results)]++
			})
		})
		for _, results := range lists {
			if n, ok := impl.CountInputsFor(l, results); !ok || n != counts[resultKey(results)] {
				t.Errorf("CountInputsFor(%v, %v) = %d, %v, want %d", l, results, n, ok, counts[resultKey(results)])
			}
		}
	}
}

func TestCountInputsForByHand(t *testing.T) {
	for _, c := range []struct {
		program string
		results []int
		want    int
	}{
		{"", nil, 1}, {"input 0 x 3\ninput 1 y 2\n", nil, 32}, {"const k 3 5\nout k\n", []int{5}, 1}, {"const k 3 5\nout k\n", []int{4}, 0},
		{"input 0 x 3\ninput 1 y 3\nlet r x + y\nout r\n", []int{3}, 8}, {"input 0 x 2\ninput 1 y 2\nlet r x < y\nout r\n", []int{1}, 6},
		{"input 0 x 2\ninput 1 y 2\nlet r x * y\nout r\n", []int{0}, 7}, {"input 0 x 2\ninput 1 y 2\nlet r x * y\nout r\n", []int{5}, 0},
		{"input 0 x 3\nout x\nout x\n", []int{3, 3}, 1}, {"input 0 x 3\nout x\nout x\n", []int{3, 2}, 0}, {"input 1 y 10\nout y\n", []int{1023}, 1},
		{"input 0 x 9\ninput 1 y 1\nout y\n", []int{1}, 512},
	} {
		if n, ok := impl.CountInputsFor(programOf(t, c.program), c.results); !ok || n != c.want {
			t.Errorf("CountInputsFor(%q, %v) = %d, %v, want %d", c.program, c.results, n, ok, c.want)
		}
	}
}

// Bits of inputs that no result is made of are counted too.
func TestBitsForCountInputsFor(t *testing.T) {
	for first := range 13 {
		for second := range 13 {
			l := withBits(first, second)
			results := repeated(0, len(widthsOfResults(l)))
			n, ok := impl.CountInputsFor(l, results)
			if ok != (first+second <= 10) || !ok && n != 0 || ok && n == 0 {
				t.Errorf("CountInputsFor of %d and %d bits = %d, %v", first, second, n, ok)
			}
		}
	}
	l := linesOf(inputLine(0, "x", 10), inputLine(1, "y", 1))
	for _, m := range [][]impl.Line{l, append(l, outLine("x")), append(l, outLine("y"))} {
		if n, ok := impl.CountInputsFor(m, repeated(0, len(m)-2)); ok || n != 0 {
			t.Errorf("CountInputsFor(%v) = %d, %v", m, n, ok)
		}
	}
}

// checkCandidates checks the candidates for one input of a party, and for all results that it meets and some others.
func checkCandidates(t *testing.T, l []impl.Line, party int, own []int) {
	t.Helper()
	candidates, lists := map[string][]int{}, otherResults(l)
	eachInput(widthsOfInputs(l, 1-party), func(n int, other []int) {
		a, b := own, other
		if party == 1 {
			a, b = other, own
		}
		results := ofResults(l, numbersByHand(l, a, b))
		if len(candidates[resultKey(results)]) == 0 {
			lists = append(lists, results)
		}
		candidates[resultKey(results)] = append(candidates[resultKey(results)], n)
	})
	for _, results := range lists {
		want := candidates[resultKey(results)]
		if got, ok := impl.CandidatesFor(l, party, own, results); !ok || !slices.Equal(got, want) {
			t.Errorf("CandidatesFor(%v, %d, %v, %v) = %v, %v, want %v", l, party, own, results, got, ok, want)
		}
	}
}

func TestCandidatesFor(t *testing.T) {
	for i, l := range tellingPrograms() {
		for party := range 2 {
			step := 1
			if sumOf(widthsOfInputs(l, party)) > 3 {
				step = 3 + i%4
			}
			eachInput(widthsOfInputs(l, party), func(n int, own []int) {
				if n%step == 0 {
					checkCandidates(t, l, party, own)
				}
			})
		}
	}
}

func TestCandidatesForByHand(t *testing.T) {
	less := "input 0 x 2\ninput 1 y 2\nlet r x < y\nout r\n"
	two := "input 1 y 1\ninput 0 x 2\ninput 1 z 2\nlet r x = z\nout r\nout y\n"
	for _, c := range []struct {
		program      string
		party        int
		own, results []int
		want         []int
	}{
		{less, 0, []int{1}, []int{1}, []int{2, 3}}, {less, 0, []int{1}, []int{0}, []int{0, 1}}, {less, 0, []int{3}, []int{1}, nil},
		{less, 1, []int{1}, []int{1}, []int{0}}, {less, 1, []int{2}, []int{0}, []int{2, 3}}, {less, 1, []int{0}, []int{1}, nil},
		{two, 0, []int{2}, []int{1, 1}, []int{5}}, {two, 0, []int{2}, []int{0, 0}, []int{0, 2, 6}}, {two, 1, []int{1, 2}, []int{1, 1}, []int{2}},
		{two, 1, []int{1, 2}, []int{1, 0}, nil}, {"", 0, nil, nil, []int{0}}, {"", 1, nil, nil, []int{0}}, {"const k 1 1\nout k\n", 1, nil, []int{0}, nil},
		{"input 0 x 2\n", 1, nil, nil, []int{0, 1, 2, 3}}, {"input 0 x 2\nout x\n", 0, []int{2}, []int{2}, []int{0}}, {"input 0 x 2\nout x\n", 0, []int{2}, []int{1}, nil},
		{"input 0 x 2\nout x\n", 1, nil, []int{1}, []int{1}},
	} {
		if got, ok := impl.CandidatesFor(programOf(t, c.program), c.party, c.own, c.results); !ok || !slices.Equal(got, c.want) {
			t.Errorf("CandidatesFor(%q, %d, %v, %v) = %v, %v, want %v", c.program, c.party, c.own, c.results, got, ok, c.want)
		}
	}
}

// The bits of a party's own inputs are not limited to 10.
func TestBitsForCandidatesFor(t *testing.T) {
	for _, own := range []int{0, 1, 10, 11, 20} {
		for other := range 14 {
			for party, l := range [][]impl.Line{withBits(own, other), withBits(other, own)} {
				results := repeated(0, len(widthsOfResults(l)))
				got, ok := impl.CandidatesFor(l, party, fittingNumbers(l, party), results)
				if ok != (other <= 10) || !ok && len(got) != 0 {
					t.Errorf("CandidatesFor of %d own bits and %d = %v, %v", own, other, got, ok)
				}
				if ok && !slices.Equal(got, highestAndMore(other)) {
					t.Errorf("CandidatesFor of %d own bits and %d = %v", own, other, got)
				}
			}
		}
	}
}

// highestAndMore returns the numbers of that many bits, at most 10, that are not less than themselves with all bits exchanged.
func highestAndMore(bits int) []int {
	numbers := []int{}
	for n := range 1 << bits {
		if 2*n >= 1<<bits-1 {
			numbers = append(numbers, n)
		}
	}
	return numbers
}

func TestResultsRefused(t *testing.T) {
	for _, l := range tellingPrograms() {
		a, b := fittingNumbers(l, 0), fittingNumbers(l, 1)
		results, widths := ofResults(l, numbersByHand(l, a, b)), widthsOfResults(l)
		refused := func(results []int) {
			if n, ok := impl.CountInputsFor(l, results); ok || n != 0 {
				t.Errorf("CountInputsFor(%v, %v) = %d, %v", l, results, n, ok)
			}
			checkNoCandidates(t, l, 0, a, results)
			checkNoCandidates(t, l, 1, b, results)
		}
		eachMisfit(results, widths, refused)
		eachMisfit(a, widthsOfInputs(l, 0), func(m []int) { checkNoCandidates(t, l, 0, m, results) })
		eachMisfit(b, widthsOfInputs(l, 1), func(m []int) { checkNoCandidates(t, l, 1, m, results) })
		for _, party := range append([]int{2, 3}, farInts...) {
			checkNoCandidates(t, l, party, a, results)
			checkNoCandidates(t, l, party, b, results)
			checkNoCandidates(t, l, party, nil, results)
		}
	}
}

func checkNoCandidates(t *testing.T, l []impl.Line, party int, own []int, results []int) {
	t.Helper()
	if got, ok := impl.CandidatesFor(l, party, own, results); ok || len(got) != 0 {
		t.Errorf("CandidatesFor(%v, %d, %v, %v) = %v, %v", l, party, own, results, got, ok)
	}
}
