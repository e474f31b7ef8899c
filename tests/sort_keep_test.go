package tests

import (
	"reflect"
	"slices"
	"testing"

	"loop.example/g00877/impl"
)

// networkResult is what a call returned; only the fields that the function has results for are set.
type networkResult struct {
	is      bool
	list    []int
	layers  [][]int
	steps   []impl.Step
	circuit impl.Circuit
	ok      bool
}

func (r networkResult) isZero() bool {
	return !r.is && len(r.list) == 0 && len(r.layers) == 0 && len(r.steps) == 0 && sameCircuit(r.circuit, impl.Circuit{}) && !r.ok
}

func (r networkResult) clone() networkResult {
	r.list, r.layers, r.steps = slices.Clone(r.list), slices.Clone(r.layers), slices.Clone(r.steps)
	for i := range r.layers {
		r.layers[i] = slices.Clone(r.layers[i])
	}
	r.circuit.Gates, r.circuit.Outs = slices.Clone(r.circuit.Gates), slices.Clone(r.circuit.Outs)
	return r
}

func (r networkResult) overwrite() {
	for _, l := range append([][]int{r.list}, r.layers...) {
		overwrite(impl.Circuit{Outs: l})
	}
	clear(r.layers[:cap(r.layers)])
	overwriteSteps(r.steps)
	overwrite(r.circuit)
}

// lineList returns a list for a network, with as many elements as it has lines if that is a number of lines.
func lineList(lines int) []int {
	return sampleNumbers(min(max(lines, 0), impl.MaxLines), 1000000, lines)
}

// networkCalls are the functions that take a network, by name, with other arguments that fit it.
func networkCalls() map[string]func(n int, l []impl.Step) networkResult {
	list := func(l []int, ok bool) networkResult { return networkResult{list: l, ok: ok} }
	circuit := func(c impl.Circuit, ok bool) networkResult { return networkResult{circuit: c, ok: ok} }
	return map[string]func(n int, l []impl.Step) networkResult{
		"IsNetwork": func(n int, l []impl.Step) networkResult { return networkResult{ok: impl.IsNetwork(n, l)} },
		"SortWith":  func(n int, l []impl.Step) networkResult { return list(impl.SortWith(n, l, lineList(n))) },
		"SortsAll": func(n int, l []impl.Step) networkResult {
			is, ok := impl.SortsAll(n, l)
			return networkResult{is: is, ok: ok}
		},
		"FirstUnsorted": func(n int, l []impl.Step) networkResult { return list(impl.FirstUnsorted(n, l)) },
		"LayersOf": func(n int, l []impl.Step) networkResult {
			layers, ok := impl.LayersOf(n, l)
			return networkResult{layers: layers, ok: ok}
		},
		"NeedlessSteps": func(n int, l []impl.Step) networkResult { return list(impl.NeedlessSteps(n, l)) },
		"PruneNetwork": func(n int, l []impl.Step) networkResult {
			steps, ok := impl.PruneNetwork(n, l)
			return networkResult{steps: steps, ok: ok}
		},
		"NetworkCircuit 1": func(n int, l []impl.Step) networkResult { return circuit(impl.NetworkCircuit(n, l, 1)) },
		"NetworkCircuit 4": func(n int, l []impl.Step) networkResult { return circuit(impl.NetworkCircuit(n, l, 4)) },
	}
}

// checkKeptSteps fails if steps made by sparedSteps from want have changed, or what is behind them.
func checkKeptSteps(t *testing.T, call string, l []impl.Step, want []impl.Step) {
	t.Helper()
	if !slices.Equal(l, want) {
		t.Errorf("%s changed its argument %v to %v", call, want, l)
	}
	if spare := l[len(l) : len(l)+3]; !slices.Equal(spare, spareSteps()) {
		t.Errorf("%s wrote behind its argument %v: %v", call, want, spare)
	}
}

func TestNoNetworksGiveZeroValues(t *testing.T) {
	for name, call := range networkCalls() {
		for _, w := range noNetworks() {
			arg := sparedSteps(w.steps)
			if r := call(w.lines, arg); !r.isZero() {
				t.Errorf("%s accepts %v: %v", name, w, r)
			}
			checkKeptSteps(t, name, arg, w.steps)
		}
	}
}

// Both results are written over, one after the other, so that memory that they share with each other or with an argument shows.
// The second call has no memory behind the steps.
func TestNetworksAreNeitherChangedNorShared(t *testing.T) {
	for name, call := range networkCalls() {
		for _, w := range slices.Concat(sampleNetworks(), networksAtLimits(), allNetworks(3, 3)) {
			arg := sparedSteps(w.steps)
			first := call(w.lines, arg)
			if first.ok != networkCallSucceeds(name, w) || !first.ok && !first.isZero() {
				t.Errorf("%s(%v) = %v", name, w, first)
			}
			checkKeptSteps(t, name, arg, w.steps)
			want := first.clone()
			second := call(w.lines, slices.Clip(slices.Clone(w.steps)))
			if !reflect.DeepEqual(second.clone(), want) {
				t.Errorf("%s(%v), again, = %v, want %v", name, w, second, want)
			}
			second.overwrite()
			if !reflect.DeepEqual(first.clone(), want) {
				t.Errorf("two results of %s(%v) share memory: %v, want %v", name, w, first, want)
			}
			first.overwrite()
			checkKeptSteps(t, "memory shared: "+name, arg, w.steps)
		}
	}
}

func networkCallSucceeds(name string, w network) bool {
	switch name {
	case "FirstUnsorted":
		return len(unsortedByHand(w)) > 0
	case "NetworkCircuit 1":
		return hasCircuit(w, 1)
	case "NetworkCircuit 4":
		return hasCircuit(w, 4)
	}
	return true
}

func TestSortedListsAreNeitherChangedNorShared(t *testing.T) {
	for _, w := range sampleNetworks() {
		for _, x := range listsFor(w.lines) {
			arg, steps := spared(x), sparedSteps(w.steps)
			after, ok := impl.SortWith(w.lines, steps, arg)
			if !ok || !slices.Equal(after, afterByHand(w.steps, x)) {
				t.Fatalf("SortWith(%v, %v) = %v, %v", w, x, after, ok)
			}
			checkKept(t, "SortWith", arg, x)
			checkNew(t, "SortWith", after, arg)
			checkKeptSteps(t, "SortWith", steps, w.steps)
		}
		for _, x := range [][]int{nil, repeated(3, w.lines-1), repeated(3, w.lines+1), append(repeated(3, w.lines-1), 1000001), repeated(-1000001, w.lines)} {
			arg := spared(x)
			checkNotSorted(t, w, arg)
			checkKept(t, "SortWith", arg, x)
		}
	}
}

func TestNoNetworksSortNoLists(t *testing.T) {
	for _, w := range noNetworks() {
		for n := range 15 {
			checkNotSorted(t, w, repeated(0, n))
		}
		checkNotSorted(t, w, repeated(1000001, max(0, min(w.lines, 20))))
		for _, width := range append([]int{0, 1, 2, 3, 4, 5}, farInts...) {
			checkNoNetworkCircuit(t, w, width)
		}
	}
}

// No layer may be written to through another one.
func TestLayersShareNoMemory(t *testing.T) {
	for _, w := range sampleNetworks() {
		layers := layersOf(t, w)
		want := networkResult{layers: layers}.clone().layers
		for i := range layers {
			overwrite(impl.Circuit{Outs: layers[i]})
			for k := i + 1; k < len(layers); k++ {
				if !slices.Equal(layers[k], want[k]) {
					t.Fatalf("layers %d and %d of %v share memory", i, k, w)
				}
			}
		}
	}
}

func TestKnownNetworksAreNew(t *testing.T) {
	for _, x := range knownNetworks() {
		for lines := 1; lines <= x.most; lines++ {
			first, _ := x.make(lines)
			second, ok := x.make(lines)
			overwriteSteps(first)
			third, again := x.make(lines)
			if !ok || !again || !slices.Equal(second, x.hand(lines)) || !slices.Equal(third, x.hand(lines)) {
				t.Errorf("%s(%d), again, = %v, %v, and %v, %v", x.name, lines, second, ok, third, again)
			}
		}
	}
}
