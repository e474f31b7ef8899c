package tests

import (
	"reflect"
	"slices"
	"testing"

	"loop.example/g00877/impl"
)

// circuitResult is what a call returned; only the fields that the function has results for are set.
type circuitResult struct {
	list    []int
	circuit impl.Circuit
	numbers [2]int
	text    string
	ok      bool
}

func (r circuitResult) isZero() bool {
	return len(r.list) == 0 && sameCircuit(r.circuit, impl.Circuit{}) && r.numbers == [2]int{} && r.text == "" && !r.ok
}

func (r circuitResult) clone() circuitResult {
	r.list = slices.Clone(r.list)
	r.circuit.Gates, r.circuit.Outs = slices.Clone(r.circuit.Gates), slices.Clone(r.circuit.Outs)
	return r
}

func (r circuitResult) overwrite() {
	overwrite(impl.Circuit{Gates: r.circuit.Gates, Outs: r.circuit.Outs})
	overwrite(impl.Circuit{Outs: r.list})
}

// fitting returns an input with as many bits as it has in a circuit, or as near to it as bits can be.
func fitting(n int) []int {
	return sampleBits(min(max(n, 0), impl.MaxBits), 1)
}

// wired returns a circuit with n inputs, as near to it as can be, all of which are its outs.
func wired(n int) impl.Circuit {
	n = min(max(n, 0), impl.MaxOuts)
	c := circuitOf(min(n, impl.MaxInputs), max(0, n-impl.MaxInputs), nil)
	for wire := range n {
		c.Outs = append(c.Outs, wire)
	}
	return c
}

// withoutOuts returns such a circuit that has no outs.
func withoutOuts(n int) impl.Circuit {
	c := wired(n)
	c.Outs = nil
	return c
}

// circuitCalls are the functions that take a circuit, by name, with other arguments that fit it.
func circuitCalls() map[string]func(c impl.Circuit) circuitResult {
	list := func(l []int, ok bool) circuitResult { return circuitResult{list: l, ok: ok} }
	circuit := func(c impl.Circuit, ok bool) circuitResult { return circuitResult{circuit: c, ok: ok} }
	return map[string]func(c impl.Circuit) circuitResult{
		"IsCircuit":   func(c impl.Circuit) circuitResult { return circuitResult{ok: impl.IsCircuit(c)} },
		"WireValues":  func(c impl.Circuit) circuitResult { return list(impl.WireValues(c, fitting(c.In0), fitting(c.In1))) },
		"EvalCircuit": func(c impl.Circuit) circuitResult { return list(impl.EvalCircuit(c, fitting(c.In0), fitting(c.In1))) },
		"CountGates":  func(c impl.Circuit) circuitResult { return list(impl.CountGates(c)) },
		"DepthOf": func(c impl.Circuit) circuitResult {
			gates, ands, ok := impl.DepthOf(c)
			return circuitResult{numbers: [2]int{gates, ands}, ok: ok}
		},
		"UsedWires":            func(c impl.Circuit) circuitResult { return list(impl.UsedWires(c)) },
		"ThenCircuit first":    func(c impl.Circuit) circuitResult { return circuit(impl.ThenCircuit(c, wired(len(c.Outs)))) },
		"ThenCircuit unused":   func(c impl.Circuit) circuitResult { return circuit(impl.ThenCircuit(c, withoutOuts(len(c.Outs)))) },
		"ThenCircuit second":   func(c impl.Circuit) circuitResult { return circuit(impl.ThenCircuit(wired(c.In0+c.In1), c)) },
		"BesideCircuit first":  func(c impl.Circuit) circuitResult { return circuit(impl.BesideCircuit(c, impl.Circuit{})) },
		"BesideCircuit second": func(c impl.Circuit) circuitResult { return circuit(impl.BesideCircuit(impl.Circuit{}, c)) },
		"TruthTable":           func(c impl.Circuit) circuitResult { return list(impl.TruthTable(c)) },
		"CircuitText": func(c impl.Circuit) circuitResult {
			s, ok := impl.CircuitText(c)
			return circuitResult{text: s, ok: ok}
		},
	}
}

func TestNoCircuitsGiveZeroValues(t *testing.T) {
	checkNoCircuits(t, circuitCalls())
}

// checkNoCircuits checks that calls have no result for circuits that are not valid, and leave them as they are.
func checkNoCircuits(t *testing.T, calls map[string]func(c impl.Circuit) circuitResult) {
	t.Helper()
	for name, call := range calls {
		for _, c := range noCircuits() {
			arg := sparedCircuit(c)
			if r := call(arg); !r.isZero() {
				t.Errorf("%s accepts %v: %v", name, c, r)
			}
			checkKeptCircuit(t, name, arg, c)
		}
	}
}

func TestCircuitsAreNeitherChangedNorShared(t *testing.T) {
	checkNewResults(t, circuitCalls(), func(name string, c impl.Circuit) bool {
		return name != "TruthTable" || c.In0+c.In1 <= 10 && len(c.Outs) <= 16
	})
}

// checkNewResults writes over the first result between two calls, so that memory kept or shared shows.
func checkNewResults(t *testing.T, calls map[string]func(c impl.Circuit) circuitResult, succeeds func(name string, c impl.Circuit) bool) {
	t.Helper()
	for name, call := range calls {
		for _, c := range sampleCircuits() {
			arg := sparedCircuit(c)
			first := call(arg)
			if first.ok != succeeds(name, c) || !first.ok && !first.isZero() {
				t.Errorf("%s(%v) = %v", name, c, first)
			}
			want := first.clone()
			first.overwrite()
			checkKeptCircuit(t, name, arg, c)
			if second := call(arg).clone(); !reflect.DeepEqual(second, want) {
				t.Errorf("%s(%v), again, = %v, want %v", name, c, second, want)
			}
		}
	}
}

func TestInputsAreNeitherChangedNorShared(t *testing.T) {
	for _, c := range sampleCircuits() {
		eachInputs(c, func(a []int, b []int) {
			x, y := spared(a), spared(b)
			values, _ := impl.WireValues(c, x, y)
			outs, _ := impl.EvalCircuit(c, x, y)
			checkNew(t, "WireValues", values, x, y)
			checkNew(t, "EvalCircuit", outs, x, y)
			checkKept(t, "WireValues and EvalCircuit", x, a)
			checkKept(t, "WireValues and EvalCircuit", y, b)
		})
	}
}

// Both circuits have gates and outs here, so that neither list is taken over as a whole.
func TestJoinedCircuitsAreNew(t *testing.T) {
	joins := map[string]func(c impl.Circuit, d impl.Circuit) (impl.Circuit, bool){"ThenCircuit": impl.ThenCircuit, "BesideCircuit": impl.BesideCircuit}
	for name, join := range joins {
		for seed := range 40 {
			c, d := sampleCircuit(2, 1, seed, 3, seed), sampleCircuit(1, 2, seed%7, seed%5, seed+99)
			x, y := sparedCircuit(c), sparedCircuit(d)
			both, ok := join(x, y)
			if !ok {
				t.Errorf("%s(%v, %v) fails", name, c, d)
			}
			overwrite(both)
			checkKeptCircuit(t, name, x, c)
			checkKeptCircuit(t, name, y, d)
			z := sparedCircuit(c)
			if both, ok = join(z, z); !ok {
				t.Errorf("%s of %v twice fails", name, c)
			}
			overwrite(both)
			checkKeptCircuit(t, name, z, c)
		}
	}
}

func TestJoinsOfNoCircuits(t *testing.T) {
	for _, c := range noCircuits() {
		for _, d := range slices.Concat(noCircuits()[:8], []impl.Circuit{{}, wired(3), c}) {
			for _, pair := range [][2]impl.Circuit{{c, d}, {d, c}} {
				if both, ok := impl.ThenCircuit(pair[0], pair[1]); ok || !sameCircuit(both, impl.Circuit{}) {
					t.Errorf("ThenCircuit(%v, %v) = %v, %v", pair[0], pair[1], both, ok)
				}
				if both, ok := impl.BesideCircuit(pair[0], pair[1]); ok || !sameCircuit(both, impl.Circuit{}) {
					t.Errorf("BesideCircuit(%v, %v) = %v, %v", pair[0], pair[1], both, ok)
				}
			}
		}
	}
}

func TestParsedCircuitsAreNew(t *testing.T) {
	for _, c := range sampleCircuits() {
		s := circuitTextByHand(c)
		first, _ := impl.ParseCircuit(s)
		overwrite(first)
		if second, ok := impl.ParseCircuit(s); !ok || !sameCircuit(second, c) {
			t.Errorf("ParseCircuit(%q), again, = %v, %v", s, second, ok)
		}
	}
}
