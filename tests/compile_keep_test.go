package tests

import (
	"math"
	"reflect"
	"slices"
	"testing"

	"loop.example/g00877/impl"
)

// compileCall is a function of chapter 6 with other arguments that fit the programs of which fits says so.
type compileCall struct {
	name string
	call func(l []impl.Line) programResult
	fits func(l []impl.Line) bool
}

func fitsAll(l []impl.Line) bool { return true }

func bitsOfInputs(l []impl.Line, party int) int { return sumOf(widthsOfInputs(l, party)) }

// zeroResults returns as many results as there are lines LnOut, all of them 0.
func zeroResults(l []impl.Line) []int {
	return repeated(0, len(ofResults(l, repeated(0, len(l)))))
}

// compileCalls are the functions of the chapter.
func compileCalls() []compileCall {
	list := func(l []int, ok bool) programResult { return programResult{list: l, ok: ok} }
	number := func(n int, ok bool) programResult { return programResult{number: n, ok: ok} }
	return []compileCall{
		{"CompileProgram", func(l []impl.Line) programResult {
			c, ok := impl.CompileProgram(l)
			return programResult{circuit: c, ok: ok}
		}, fitsAll},
		{"InputBits of 0", func(l []impl.Line) programResult { return list(impl.InputBits(l, 0, fittingNumbers(l, 0))) }, fitsAll},
		{"InputBits of 1", func(l []impl.Line) programResult { return list(impl.InputBits(l, 1, fittingNumbers(l, 1))) }, fitsAll},
		{"InputBits of none", func(l []impl.Line) programResult { return list(impl.InputBits(l, 0, nil)) },
			func(l []impl.Line) bool { return bitsOfInputs(l, 0) == 0 }},
		{"ResultNumbers", func(l []impl.Line) programResult {
			if _, ok := programByHand(l); !ok {
				return list(impl.ResultNumbers(l, []int{1}))
			}
			return list(impl.ResultNumbers(l, sampleBits(sumOf(widthsOfResults(l)), 3)))
		}, fitsAll},
		{"ResultNumbers of none", func(l []impl.Line) programResult { return list(impl.ResultNumbers(l, nil)) },
			func(l []impl.Line) bool { return len(zeroResults(l)) == 0 }},
		{"RunCompiled", func(l []impl.Line) programResult {
			return list(impl.RunCompiled(l, fittingNumbers(l, 0), fittingNumbers(l, 1)))
		}, fitsAll},
		{"RunCompiled of none", func(l []impl.Line) programResult { return list(impl.RunCompiled(l, nil, nil)) },
			func(l []impl.Line) bool { return bitsOfInputs(l, 0)+bitsOfInputs(l, 1) == 0 }},
		{"WiresOf", func(l []impl.Line) programResult { return list(impl.WiresOf(l, nameIn(l))) },
			func(l []impl.Line) bool { return nameIn(l) != "none" }},
		{"LineOfGate", func(l []impl.Line) programResult { return number(impl.LineOfGate(l, 1)) },
			func(l []impl.Line) bool { return len(compiledByHand(l).makers) > 1 }},
		{"AndsByLine", func(l []impl.Line) programResult { return list(impl.AndsByLine(l)) }, fitsAll},
		{"CountInputsFor", func(l []impl.Line) programResult { return number(impl.CountInputsFor(l, zeroResults(l))) },
			func(l []impl.Line) bool { return bitsOfInputs(l, 0)+bitsOfInputs(l, 1) <= 10 }},
		{"CandidatesFor 0", func(l []impl.Line) programResult {
			return list(impl.CandidatesFor(l, 0, fittingNumbers(l, 0), zeroResults(l)))
		}, func(l []impl.Line) bool { return bitsOfInputs(l, 1) <= 10 }},
		{"CandidatesFor 1", func(l []impl.Line) programResult {
			return list(impl.CandidatesFor(l, 1, fittingNumbers(l, 1), zeroResults(l)))
		}, func(l []impl.Line) bool { return bitsOfInputs(l, 0) <= 10 }},
	}
}

func TestNoCompiledProgramsGiveZeroValues(t *testing.T) {
	for _, c := range compileCalls() {
		for _, l := range slices.Concat(noPrograms(), noCompilable()) {
			arg := sparedLines(l)
			if r := c.call(arg); !r.isZero() {
				t.Errorf("%s accepts %v: %v", c.name, l, r)
			}
			checkKeptLines(t, c.name, arg, l)
		}
	}
}

// The first result is written over between two calls, so that memory kept or shared shows.
func TestCompiledProgramsAreNeitherChangedNorShared(t *testing.T) {
	for _, c := range compileCalls() {
		for _, l := range compilableSamples() {
			arg := sparedLines(l)
			first := c.call(arg)
			if fits := c.fits(l); first.ok != fits || !fits && !first.isZero() {
				t.Errorf("%s(%v) = %v", c.name, l, first)
			}
			want := first.clone()
			first.overwrite()
			checkKeptLines(t, c.name, arg, l)
			if second := c.call(arg).clone(); !reflect.DeepEqual(second, want) {
				t.Errorf("%s(%v), again, = %v, want %v", c.name, l, second, want)
			}
		}
	}
}

func TestListsForCompiledProgramsAreNeitherChangedNorShared(t *testing.T) {
	for _, l := range compilableSamples() {
		a, b, results := fittingNumbers(l, 0), fittingNumbers(l, 1), zeroResults(l)
		bits := repeated(1, sumOf(widthsOfResults(l)))
		lists := [][]int{spared(a), spared(b), spared(results), spared(bits)}
		first, _ := impl.InputBits(l, 0, lists[0])
		second, _ := impl.InputBits(l, 1, lists[1])
		numbers, _ := impl.ResultNumbers(l, lists[3])
		run, _ := impl.RunCompiled(l, lists[0], lists[1])
		impl.CountInputsFor(l, lists[2])
		found := [][]int{first, second, numbers, run}
		for party := range 2 {
			candidates, _ := impl.CandidatesFor(l, party, lists[party], lists[2])
			found = append(found, candidates)
		}
		for i, want := range [][]int{a, b, results, bits} {
			checkKept(t, "chapter 6", lists[i], want)
		}
		for _, result := range found {
			checkNew(t, "chapter 6", result, lists...)
		}
	}
}

// Numbers and names of all kinds are given to programs of all kinds; nothing may panic, and what fails gives zero values.
func TestOddArgumentsOfCompiledPrograms(t *testing.T) {
	check := func(call string, ok bool, zero bool) {
		if !ok && !zero {
			t.Errorf("%s fails with a result", call)
		}
	}
	lists := [][]int{nil, {}, {0}, {1, 1}, {-1}, {math.MinInt}, {math.MaxInt}, {0, 1024}, repeated(0, 64), repeated(1, 70)}
	for _, l := range slices.Concat(noPrograms(), noCompilable(), edgePrograms()) {
		for _, n := range append([]int{0, 1, 2, 299, 300}, farInts...) {
			line, ok := impl.LineOfGate(l, n)
			check("LineOfGate", ok, line == 0)
			for _, m := range lists {
				bits, ok := impl.InputBits(l, n, m)
				check("InputBits", ok, len(bits) == 0)
				candidates, ok := impl.CandidatesFor(l, n, m, m)
				check("CandidatesFor", ok, len(candidates) == 0)
			}
		}
		for _, m := range lists {
			numbers, ok := impl.ResultNumbers(l, m)
			check("ResultNumbers", ok, len(numbers) == 0)
			results, ok := impl.RunCompiled(l, m, m)
			check("RunCompiled", ok, len(results) == 0)
			n, ok := impl.CountInputsFor(l, m)
			check("CountInputsFor", ok, n == 0)
		}
		for _, name := range []string{"", "x", "none", "\x00", "\xff", string(make([]byte, 100000))} {
			wires, ok := impl.WiresOf(l, name)
			check("WiresOf", ok, len(wires) == 0)
		}
	}
}
