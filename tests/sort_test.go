package tests

import (
	"fmt"
	"slices"
	"testing"

	"loop.example/g00877/impl"
)

func TestSortLimits(t *testing.T) {
	if impl.MaxLines != 12 || impl.MaxComparators != 60 {
		t.Error("constants", impl.MaxLines, impl.MaxComparators)
	}
}

func TestIsNetwork(t *testing.T) {
	for _, w := range slices.Concat(fewStepNetworks(), sampleNetworks()) {
		if !networkByHand(w) || !impl.IsNetwork(w.lines, w.steps) {
			t.Errorf("IsNetwork(%v) is false", w)
		}
	}
	for _, w := range noNetworks() {
		if networkByHand(w) || impl.IsNetwork(w.lines, w.steps) {
			t.Errorf("IsNetwork(%v) is true", w)
		}
	}
	for lines := -2; lines <= 15; lines++ {
		if is := impl.IsNetwork(lines, nil); is != (lines >= 1 && lines <= 12) {
			t.Errorf("IsNetwork of %d lines without steps is %v", lines, is)
		}
		for steps := range 63 {
			w := network{lines: lines, steps: slices.Repeat(stepsFrom("0-1"), steps)}
			if is := impl.IsNetwork(w.lines, w.steps); is != networkByHand(w) {
				t.Errorf("IsNetwork(%v) is %v", w, is)
			}
		}
		for low := -2; low < 15; low++ {
			for high := -2; high < 15; high++ {
				w := network{lines: lines, steps: []impl.Step{stepOf(low, high)}}
				if is := impl.IsNetwork(w.lines, w.steps); is != networkByHand(w) {
					t.Errorf("IsNetwork(%v) is %v", w, is)
				}
			}
		}
	}
}

func checkSorted(t *testing.T, w network, x []int, want []int) {
	t.Helper()
	if after, ok := impl.SortWith(w.lines, w.steps, x); !ok || !slices.Equal(after, want) {
		t.Fatalf("SortWith(%v, %v) = %v, %v, want %v", w, x, after, ok, want)
	}
}

func checkNotSorted(t *testing.T, w network, x []int) {
	t.Helper()
	if after, ok := impl.SortWith(w.lines, w.steps, x); ok || len(after) != 0 {
		t.Errorf("SortWith(%v, %v) = %v, %v", w, x, after, ok)
	}
}

func TestListsStepByStep(t *testing.T) {
	for _, x := range []struct {
		lines   int
		steps   string
		x, want []int
	}{
		{1, "", []int{5}, []int{5}},
		{3, "", []int{3, 1, 2}, []int{3, 1, 2}},
		{2, "0-1", []int{2, 1}, []int{1, 2}},
		{2, "0-1", []int{1, 2}, []int{1, 2}},
		{2, "0-1", []int{7, 7}, []int{7, 7}},
		{2, "0-1", []int{-1, -2}, []int{-2, -1}},
		{2, "0-1 0-1 0-1", []int{2, 1}, []int{1, 2}},
		{2, "0-1", []int{1000000, -1000000}, []int{-1000000, 1000000}},
		{3, "0-2", []int{3, 2, 1}, []int{1, 2, 3}},
		{3, "0-1 1-2", []int{3, 2, 1}, []int{2, 1, 3}},
		{3, "1-2 0-1", []int{3, 2, 1}, []int{1, 3, 2}},
		{3, "0-1 1-2 0-1", []int{3, 2, 1}, []int{1, 2, 3}},
		{4, "0-3 1-2", []int{4, 3, 2, 1}, []int{1, 2, 3, 4}},
		{4, "0-2 1-3 0-1 2-3", []int{3, 4, 1, 2}, []int{1, 2, 3, 4}},
		{4, "0-2 1-3 0-1 2-3", []int{1, 2, 0, 3}, []int{0, 2, 1, 3}},
		{4, "0-2 1-3 0-1 2-3 1-2", []int{1, 2, 0, 3}, []int{0, 1, 2, 3}},
		{5, "0-4", []int{5, 1, 1, 1, 0}, []int{0, 1, 1, 1, 5}},
	} {
		checkSorted(t, networkFrom(x.lines, x.steps), x.x, x.want)
	}
}

func TestSortWithAnyNetwork(t *testing.T) {
	for _, w := range sampleNetworks() {
		for _, x := range listsFor(w.lines) {
			checkSorted(t, w, x, afterByHand(w.steps, x))
		}
	}
	for _, w := range fewStepNetworks() {
		for seed := range 3 {
			x := sampleNumbers(w.lines, 3, seed)
			checkSorted(t, w, x, afterByHand(w.steps, x))
		}
	}
}

func TestListsThatDoNotFit(t *testing.T) {
	for lines := 1; lines <= 12; lines++ {
		for _, w := range []network{{lines: lines}, sampleNetwork(lines, 20, lines)} {
			for n := range 70 {
				if n != lines {
					checkNotSorted(t, w, repeated(0, n))
					checkNotSorted(t, w, wiresInOrder(0, n))
				}
			}
			checkNotSorted(t, w, nil)
			for i := range lines {
				for _, far := range append([]int{1000001, -1000001, 1000002, 1 << 20}, farInts...) {
					x := wiresInOrder(5, lines)
					x[i] = far
					if far < -1000000 || far > 1000000 {
						checkNotSorted(t, w, x)
					} else {
						checkSorted(t, w, x, afterByHand(w.steps, x))
					}
				}
				for _, near := range []int{1000000, -1000000, 999999, -999999} {
					x := wiresInOrder(5, lines)
					x[i] = near
					checkSorted(t, w, x, afterByHand(w.steps, x))
				}
			}
		}
	}
}

// checkUnsorted checks what SortsAll and FirstUnsorted tell of a network.
func checkUnsorted(t *testing.T, w network) {
	t.Helper()
	unsorted := unsortedByHand(w)
	if sorts, ok := impl.SortsAll(w.lines, w.steps); !ok || sorts != (len(unsorted) == 0) {
		t.Fatalf("SortsAll(%v) = %v, %v, but %v are not sorted", w, sorts, ok, unsorted)
	}
	l, ok := impl.FirstUnsorted(w.lines, w.steps)
	if len(unsorted) == 0 {
		if ok || len(l) != 0 {
			t.Fatalf("FirstUnsorted(%v) = %v, %v, but it sorts", w, l, ok)
		}
		return
	}
	number, isNumber := impl.NumberOf(l)
	if !ok || !isNumber || len(l) != w.lines || number != unsorted[0] {
		t.Fatalf("FirstUnsorted(%v) = %v, %v, the number %d, want %v", w, l, ok, number, unsorted)
	}
	if after, ok := impl.SortWith(w.lines, w.steps, l); !ok || slices.IsSorted(after) {
		t.Fatalf("FirstUnsorted(%v) = %v, but after its steps it is %v, %v", w, l, after, ok)
	}
	for earlier := range number {
		if after, ok := impl.SortWith(w.lines, w.steps, bitsOfNumber(earlier, w.lines)); !ok || !slices.IsSorted(after) {
			t.Fatalf("FirstUnsorted(%v) = %v, but the number %d is not sorted: %v, %v", w, l, earlier, after, ok)
		}
	}
}

func TestUnsortedLists(t *testing.T) {
	firsts, sorting := map[int]bool{}, 0
	for _, w := range slices.Concat(fewStepNetworks(), sampleNetworks()) {
		checkUnsorted(t, w)
		if unsorted := unsortedByHand(w); len(unsorted) > 0 {
			firsts[unsorted[0]] = true
		} else {
			sorting++
		}
	}
	if len(firsts) < 30 || sorting < 50 {
		t.Errorf("only %d networks sort, and only %v are the first unsorted ones of others", sorting, firsts)
	}
}

func TestFirstUnsortedByHand(t *testing.T) {
	for _, x := range []struct {
		lines int
		steps string
		want  []int
	}{
		{2, "", []int{1, 0}},
		{3, "", []int{1, 0, 0}},
		{12, "", []int{1, 0, 0, 0, 0, 0, 0, 0, 0, 0, 0, 0}},
		{3, "0-1", []int{1, 0, 0}},
		{3, "1-2", []int{1, 0, 0}},
		{3, "0-2", []int{0, 1, 0}},
		{3, "0-1 1-2", []int{1, 1, 0}},
		{3, "0-1 0-2", []int{1, 0, 0}},
		{3, "1-2 0-1", []int{1, 0, 0}},
		{3, "0-2 1-2", []int{1, 0, 1}},
		{3, "1-2 0-2", []int{1, 1, 0}},
		{4, "0-1 1-2 2-3", []int{1, 1, 0, 0}},
		{4, "0-2 1-3 0-1 2-3", []int{1, 0, 1, 0}},
		{4, "0-3 1-3 2-3 0-2 1-2", []int{1, 0, 1, 1}},
	} {
		if l, ok := impl.FirstUnsorted(x.lines, stepsFrom(x.steps)); !ok || !slices.Equal(l, x.want) {
			t.Errorf("FirstUnsorted of %d lines and %q = %v, %v, want %v", x.lines, x.steps, l, ok, x.want)
		}
		if sorts, ok := impl.SortsAll(x.lines, stepsFrom(x.steps)); sorts || !ok {
			t.Errorf("SortsAll of %d lines and %q = %v, %v", x.lines, x.steps, sorts, ok)
		}
	}
	// On 1 line every list is in order.
	if l, ok := impl.FirstUnsorted(1, nil); ok || len(l) != 0 {
		t.Errorf("FirstUnsorted of 1 line = %v, %v", l, ok)
	}
	if sorts, ok := impl.SortsAll(1, nil); !sorts || !ok {
		t.Errorf("SortsAll of 1 line = %v, %v", sorts, ok)
	}
}

// sortsOrders reports whether SortWith brings all orders of different numbers, and of numbers some of which are equal, into order.
func sortsOrders(t *testing.T, w network) bool {
	t.Helper()
	all := true
	for _, numbers := range [][]int{wiresInOrder(-1, w.lines), append(repeated(4, (w.lines+1)/2), wiresInOrder(3, w.lines/2)...)} {
		want := slices.Sorted(slices.Values(numbers))
		eachOrder(numbers, func(order []int) {
			after, ok := impl.SortWith(w.lines, w.steps, order)
			if !ok {
				t.Fatalf("SortWith(%v, %v) fails", w, order)
			}
			all = all && slices.Equal(after, want)
		})
	}
	return all
}

// Whether a network sorts is told by zeros and ones, but it is so for all numbers.
func TestNetworksThatSortBringEveryListIntoOrder(t *testing.T) {
	sorting := 0
	for _, w := range slices.Concat(fewStepNetworks(), sampleNetworks()) {
		sorts, ok := impl.SortsAll(w.lines, w.steps)
		if w.lines <= 6 {
			if is := sortsOrders(t, w); !ok || is != sorts {
				t.Fatalf("SortsAll(%v) = %v, %v, but for orders of numbers it is %v", w, sorts, ok, is)
			}
		}
		if !sorts {
			continue
		}
		sorting++
		for _, x := range listsFor(w.lines) {
			checkSorted(t, w, x, slices.Sorted(slices.Values(x)))
		}
	}
	if sorting < 50 {
		t.Errorf("only %d networks sort", sorting)
	}
}

func layersOf(t *testing.T, w network) [][]int {
	t.Helper()
	layers, ok := impl.LayersOf(w.lines, w.steps)
	if !ok {
		t.Fatalf("LayersOf(%v) fails", w)
	}
	return layers
}

func TestLayersByHand(t *testing.T) {
	for _, x := range []struct {
		lines int
		steps string
		want  [][]int
	}{
		{1, "", nil},
		{12, "", nil},
		{2, "0-1", [][]int{{0}}},
		{2, "0-1 0-1 0-1", [][]int{{0}, {1}, {2}}},
		{3, "0-1 1-2 0-1", [][]int{{0}, {1}, {2}}},
		{4, "0-1 2-3", [][]int{{0, 1}}},
		{4, "0-1 1-2 2-3", [][]int{{0}, {1}, {2}}},
		{4, "0-2 1-3 0-1 2-3 1-2", [][]int{{0, 1}, {2, 3}, {4}}},
		{4, "0-1 1-2 0-1 2-3 2-3", [][]int{{0}, {1}, {2, 3}, {4}}},
		{5, "0-1 0-1 0-1 2-3 3-4 1-2", [][]int{{0, 3}, {1, 4}, {2}, {5}}},
		{6, "0-1 0-1 1-2 4-5 3-4 2-3", [][]int{{0, 3}, {1, 4}, {2}, {5}}},
		// A step goes before earlier ones if it has no line in common with them.
		{6, "0-1 1-2 2-3 4-5", [][]int{{0, 3}, {1}, {2}}},
		// A line that a step passes over is none of its own.
		{4, "0-3 1-2", [][]int{{0, 1}}},
		{12, "0-11 1-10 2-9 0-1 10-11 2-3", [][]int{{0, 1, 2}, {3, 4, 5}}},
	} {
		layers, ok := impl.LayersOf(x.lines, stepsFrom(x.steps))
		if !ok || fmt.Sprint(layers) != fmt.Sprint(x.want) {
			t.Errorf("LayersOf of %d lines and %q = %v, %v, want %v", x.lines, x.steps, layers, ok, x.want)
		}
	}
}

func TestLayers(t *testing.T) {
	for _, w := range slices.Concat(fewStepNetworks(), sampleNetworks()) {
		layers := layersOf(t, w)
		if want := layersByHand(w.steps); fmt.Sprint(layers) != fmt.Sprint(want) {
			t.Fatalf("LayersOf(%v) = %v, want %v", w, layers, want)
		}
		checkLayers(t, w, layers)
	}
}

// checkLayers checks that no layer has a line twice, and that each step is where it must be.
func checkLayers(t *testing.T, w network, layers [][]int) {
	t.Helper()
	places := map[int]int{}
	for place, layer := range layers {
		lines := map[int]bool{}
		for _, k := range layer {
			places[k] = place
			lines[w.steps[k].Low], lines[w.steps[k].High] = true, true
		}
		if len(layer) == 0 || len(lines) != 2*len(layer) || !slices.IsSorted(layer) {
			t.Fatalf("layer %v of %v", layer, w)
		}
	}
	if len(places) != len(w.steps) {
		t.Fatalf("the layers %v of %v have not all steps", layers, w)
	}
	for k := range w.steps {
		behind := 0
		for j := range k {
			if meet(w.steps[j], w.steps[k]) {
				behind = max(behind, places[j]+1)
			}
		}
		if places[k] != behind {
			t.Fatalf("step %d of %v is in layer %d, not %d", k, w, places[k], behind)
		}
	}
}

// Steps of one layer may be taken in any order.
func TestNetworksLayerByLayer(t *testing.T) {
	for _, w := range sampleNetworks() {
		byLayer := network{lines: w.lines}
		for _, layer := range layersOf(t, w) {
			for _, k := range slices.Backward(layer) {
				byLayer.steps = append(byLayer.steps, w.steps[k])
			}
		}
		for _, x := range listsFor(w.lines) {
			after, _ := impl.SortWith(w.lines, w.steps, x)
			checkSorted(t, byLayer, x, after)
		}
	}
}
