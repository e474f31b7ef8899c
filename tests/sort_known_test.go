package tests

import (
	"math/bits"
	"slices"
	"testing"

	"loop.example/g00877/impl"
)

// known is one of both networks that the chapter tells of: what makes it, and what it is by hand.
type known struct {
	name  string
	make  func(n int) ([]impl.Step, bool)
	hand  func(lines int) []impl.Step
	most  int
	texts []string
}

// The texts of the networks on 1, 2, 3 lines and so on are worked out by hand from the document.
func knownNetworks() []known {
	return []known{
		{"InsertionNetwork", impl.InsertionNetwork, insertionByHand, 11, []string{
			"", "0-1", "0-1 1-2 0-1", "0-1 1-2 0-1 2-3 1-2 0-1", "0-1 1-2 0-1 2-3 1-2 0-1 3-4 2-3 1-2 0-1",
		}},
		{"MergeNetwork", impl.MergeNetwork, mergeByHand, 12, []string{
			"", "0-1", "0-2 0-1 1-2", "0-2 1-3 0-1 2-3 1-2",
			"0-4 0-2 1-3 2-4 0-1 2-3 1-4 1-2 3-4",
			"0-4 1-5 0-2 1-3 2-4 3-5 0-1 2-3 4-5 1-4 1-2 3-4",
			"0-4 1-5 2-6 0-2 1-3 4-6 2-4 3-5 0-1 2-3 4-5 1-4 3-6 1-2 3-4 5-6",
			"0-4 1-5 2-6 3-7 0-2 1-3 4-6 5-7 2-4 3-5 0-1 2-3 4-5 6-7 1-4 3-6 1-2 3-4 5-6",
			"0-8 0-4 1-5 2-6 3-7 4-8 0-2 1-3 4-6 5-7 2-8 2-4 3-5 6-8 0-1 2-3 4-5 6-7 1-8 1-4 3-6 5-8 1-2 3-4 5-6 7-8",
		}},
	}
}

func TestKnownNetworks(t *testing.T) {
	for _, x := range knownNetworks() {
		for lines := 1; lines <= x.most; lines++ {
			l, ok := x.make(lines)
			if !ok || !slices.Equal(l, x.hand(lines)) {
				t.Errorf("%s(%d) = %v, %v, want %v", x.name, lines, l, ok, x.hand(lines))
			}
			if lines <= len(x.texts) && !slices.Equal(l, stepsFrom(x.texts[lines-1])) {
				t.Errorf("%s(%d) = %v, want %s", x.name, lines, l, x.texts[lines-1])
			}
			if !impl.IsNetwork(lines, l) {
				t.Errorf("%s(%d) = %v is no network", x.name, lines, l)
			}
			if sorts, ok := impl.SortsAll(lines, l); !sorts || !ok || len(unsortedByHand(network{lines: lines, steps: l})) > 0 {
				t.Errorf("%s(%d) = %v sorts: %v, %v", x.name, lines, l, sorts, ok)
			}
		}
		for _, lines := range append([]int{0, x.most + 1, 13, 14, 16, -12}, farInts...) {
			if l, ok := x.make(lines); ok || len(l) != 0 {
				t.Errorf("%s(%d) = %v, %v", x.name, lines, l, ok)
			}
		}
	}
}

// The sizes of Batcher's networks are known, and their layers for powers of two; those for other numbers may be fewer.
func TestSizesOfKnownNetworks(t *testing.T) {
	merge := []int{0, 1, 3, 5, 9, 12, 16, 19, 26, 31, 37, 41}
	for lines := 1; lines <= 12; lines++ {
		l, ok := impl.MergeNetwork(lines)
		depth := bits.Len(uint(lines - 1))
		layers, most := layersOf(t, network{lines: lines, steps: l}), depth*(depth+1)/2
		if !ok || len(l) != merge[lines-1] || len(layers) > most || len(layers) < most && lines == 1<<depth {
			t.Errorf("MergeNetwork(%d) has %d steps in %d layers, %v", lines, len(l), len(layers), ok)
		}
		// There is a step for each two lines: on 12 lines these are more than 60.
		l, ok = impl.InsertionNetwork(lines)
		if lines == 12 {
			if ok || len(l) != 0 {
				t.Errorf("InsertionNetwork(12) has %d steps, %v", len(l), ok)
			}
			continue
		}
		if layers := layersOf(t, network{lines: lines, steps: l}); !ok || len(l) != lines*(lines-1)/2 || len(layers) != max(2*lines-3, 0) {
			t.Errorf("InsertionNetwork(%d) has %d steps in %d layers, %v", lines, len(l), len(layers), ok)
		}
	}
}

// The network of insertions needs each step: every two neighbours of a list in falling order are exchanged.
func TestInsertionsAreNeeded(t *testing.T) {
	for lines := 1; lines <= 11; lines++ {
		l, _ := impl.InsertionNetwork(lines)
		checkNeedless(t, network{lines: lines, steps: l}, []int{})
		for k := range l {
			if sorts, ok := impl.SortsAll(lines, withoutStep(network{lines: lines, steps: l}, k).steps); sorts || !ok {
				t.Errorf("InsertionNetwork(%d) sorts without the step %d: %v", lines, k, ok)
			}
		}
	}
}

func checkNeedless(t *testing.T, w network, want []int) {
	t.Helper()
	needless, ok := impl.NeedlessSteps(w.lines, w.steps)
	if !ok || !slices.Equal(needless, want) {
		t.Fatalf("NeedlessSteps(%v) = %v, %v, want %v", w, needless, ok, want)
	}
	kept := []impl.Step{}
	for k, step := range w.steps {
		if !slices.Contains(want, k) {
			kept = append(kept, step)
		}
	}
	if l, ok := impl.PruneNetwork(w.lines, w.steps); !ok || !slices.Equal(l, kept) {
		t.Fatalf("PruneNetwork(%v) = %v, %v, want %v", w, l, ok, kept)
	}
}

func TestNeedlessStepsByHand(t *testing.T) {
	for _, x := range []struct {
		lines int
		steps string
		want  []int
	}{
		{1, "", nil},
		{12, "", nil},
		{2, "0-1", nil},
		{12, "3-9", nil},
		// The first step always exchanges something; the same one behind it does not.
		{2, "0-1 0-1", []int{1}},
		{2, "0-1 0-1 0-1 0-1", []int{1, 2, 3}},
		{3, "0-1 0-1 1-2 0-1", []int{1}},
		{3, "0-1 1-2 0-1 1-2", []int{3}},
		{3, "0-1 1-2 0-1 0-2", []int{3}},
		{3, "0-1 1-2 0-2", []int{2}},
		{3, "0-1 0-2 1-2 0-1", []int{3}},
		{3, "0-2 0-1 1-2", nil},
		{3, "0-2 0-1 0-2 1-2", []int{2}},
		{3, "0-1 0-2 0-1", []int{2}},
		{3, "0-2 1-2 0-2", []int{2}},
		{4, "0-1 2-3 0-1 2-3 0-2 1-3 0-3 1-2 0-3", []int{2, 3, 6, 8}},
		{4, "0-1 1-2 2-3 0-3", []int{3}},
		{4, "0-1 2-3 1-2 0-3 0-1 2-3", nil},
		{4, "0-1 2-3 1-2 0-1 2-3 0-3", []int{5}},
		{12, "0-11 4-7 0-11 4-7", []int{2, 3}},
	} {
		checkNeedless(t, networkFrom(x.lines, x.steps), x.want)
	}
}

func TestNeedlessSteps(t *testing.T) {
	counts := map[int]bool{}
	for _, w := range slices.Concat(fewStepNetworks(), sampleNetworks()) {
		needless := needlessByHand(w)
		checkNeedless(t, w, needless)
		counts[len(needless)] = true
		if slices.Contains(needless, 0) {
			t.Fatalf("the first step of %v is needless", w)
		}
	}
	if len(counts) < 10 {
		t.Errorf("only %v numbers of needless steps are met", counts)
	}
}

// Behind a network that sorts every step is needless, and put in twice one of two steps is.
func TestStepsPutIn(t *testing.T) {
	for _, w := range sortingNetworks() {
		needless := needlessByHand(w)
		for _, step := range stepsOn(w.lines) {
			if len(w.steps) < 60 {
				checkNeedless(t, withStep(w, len(w.steps), step), append(slices.Clone(needless), len(w.steps)))
			}
		}
		for k, step := range w.steps {
			if len(w.steps) < 60 && k%3 == 0 {
				twice := withStep(w, k, step)
				checkNeedless(t, twice, needlessByHand(twice))
				if l, _ := impl.NeedlessSteps(twice.lines, twice.steps); !slices.Contains(l, k+1) {
					t.Fatalf("step %d of %v is the one before it, but not needless", k+1, twice)
				}
			}
		}
	}
}

func TestPrunedNetworksDoTheSame(t *testing.T) {
	shorter := 0
	for _, w := range slices.Concat(fewStepNetworks(), sampleNetworks()) {
		l, ok := impl.PruneNetwork(w.lines, w.steps)
		pruned := network{lines: w.lines, steps: l}
		if !ok || !networkByHand(pruned) {
			t.Fatalf("PruneNetwork(%v) = %v, %v", w, l, ok)
		}
		if len(l) < len(w.steps) {
			shorter++
		}
		for _, x := range listsFor(w.lines)[:20] {
			checkSorted(t, pruned, x, afterByHand(w.steps, x))
		}
		for number := range min(1<<w.lines, 256) {
			x := bitsOfNumber(number*37%(1<<w.lines), w.lines)
			checkSorted(t, pruned, x, afterByHand(w.steps, x))
		}
		checkNeedless(t, pruned, nil)
		sorts, _ := impl.SortsAll(w.lines, w.steps)
		if still, ok := impl.SortsAll(w.lines, l); !ok || still != sorts {
			t.Fatalf("SortsAll of the pruned %v = %v, %v, before it is %v", w, still, ok, sorts)
		}
	}
	if shorter < 500 {
		t.Errorf("only %d networks are pruned", shorter)
	}
}

func TestSortExample(t *testing.T) {
	l, ok := impl.InsertionNetwork(3)
	if !ok || !slices.Equal(l, stepsFrom("0-1 1-2 0-1")) {
		t.Errorf("InsertionNetwork(3) = %v, %v", l, ok)
	}
	if sorts, ok := impl.SortsAll(3, l); !sorts || !ok {
		t.Errorf("InsertionNetwork(3) sorts: %v, %v", sorts, ok)
	}
	layers := layersOf(t, network{lines: 3, steps: l})
	if len(layers) != 3 || !slices.Equal(slices.Concat(layers...), []int{0, 1, 2}) {
		t.Errorf("layers of InsertionNetwork(3): %v", layers)
	}
	if l, ok := impl.MergeNetwork(4); !ok || !slices.Equal(l, stepsFrom("0-2 1-3 0-1 2-3 1-2")) {
		t.Errorf("MergeNetwork(4) = %v, %v", l, ok)
	}
}
