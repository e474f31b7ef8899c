package tests

import (
	"math"
	"math/bits"
	"slices"
	"strconv"
	"strings"

	"loop.example/g00877/impl"
)

// network is what the functions of the chapter take together.
type network struct {
	lines int
	steps []impl.Step
}

func stepOf(low int, high int) impl.Step { return impl.Step{Low: low, High: high} }

// stepsFrom returns the steps of a text such as 0-1 1-2.
func stepsFrom(text string) []impl.Step {
	l := []impl.Step{}
	for _, word := range strings.Fields(text) {
		first, second, _ := strings.Cut(word, "-")
		low, _ := strconv.Atoi(first)
		high, _ := strconv.Atoi(second)
		l = append(l, stepOf(low, high))
	}
	return l
}

func networkFrom(lines int, text string) network {
	return network{lines: lines, steps: stepsFrom(text)}
}

// stepsOn returns all steps of that many lines.
func stepsOn(lines int) []impl.Step {
	l := []impl.Step{}
	for low := range lines {
		for high := low + 1; high < lines; high++ {
			l = append(l, stepOf(low, high))
		}
	}
	return l
}

// allNetworks returns all networks on that many lines with that many steps.
func allNetworks(lines int, steps int) []network {
	if steps == 0 {
		return []network{{lines: lines}}
	}
	all := []network{}
	for _, w := range allNetworks(lines, steps-1) {
		for _, step := range stepsOn(lines) {
			all = append(all, network{lines: lines, steps: append(slices.Clone(w.steps), step)})
		}
	}
	return all
}

// sampleNetwork returns a network that follows no short rule; on 1 line it has no steps.
func sampleNetwork(lines int, steps int, seed int) network {
	w, all := network{lines: lines}, stepsOn(lines)
	state := uint64(seed)*2862933555777941757 + 3037000493
	for len(all) > 0 && len(w.steps) < steps {
		state = state*6364136223846793005 + 1442695040888963407
		w.steps = append(w.steps, all[state>>33%uint64(len(all))])
	}
	return w
}

// withStep returns a network with a further step before the one with an index.
func withStep(w network, k int, step impl.Step) network {
	return network{lines: w.lines, steps: slices.Insert(slices.Clone(w.steps), k, step)}
}

func withoutStep(w network, k int) network {
	return network{lines: w.lines, steps: slices.Delete(slices.Clone(w.steps), k, k+1)}
}

// fewStepNetworks returns all networks of a few sizes. Some of those on 4 lines with 5 steps sort; none with fewer steps does.
func fewStepNetworks() []network {
	networks := slices.Concat(allNetworks(1, 0), allNetworks(4, 5))
	for steps := range 6 {
		networks = append(networks, allNetworks(2, steps)...)
		networks = append(networks, allNetworks(3, steps)...)
	}
	for steps := range 4 {
		networks = append(networks, allNetworks(4, steps)...)
	}
	return append(networks, allNetworks(5, 2)...)
}

// sortingNetworks returns the known networks on all numbers of lines, and those with few steps also with needless ones behind them.
func sortingNetworks() []network {
	networks := []network{{lines: 1}}
	for lines := 2; lines <= 12; lines++ {
		merge := mergeByHand(lines)
		networks = append(networks, network{lines: lines, steps: merge})
		if lines < 12 {
			networks = append(networks, network{lines: lines, steps: insertionByHand(lines)})
		}
		if lines < 10 {
			networks = append(networks, network{lines: lines, steps: slices.Concat(merge, merge, stepsOn(lines)[:1])})
		}
	}
	return networks
}

// sampleNetworks returns networks of many sizes, with each limit met exactly among them.
func sampleNetworks() []network {
	networks := sortingNetworks()
	for _, w := range sortingNetworks() {
		for k := range w.steps {
			if k%5 == w.lines%5 {
				networks = append(networks, withoutStep(w, k))
			}
		}
	}
	for lines := 1; lines <= 12; lines++ {
		for i, steps := range []int{0, 1, 2, 5, 12, 30, 59, 60} {
			networks = append(networks, sampleNetwork(lines, steps, 10*lines+i))
		}
	}
	return append(networks, network{lines: 2, steps: slices.Repeat(stepsFrom("0-1"), 60)}, network{lines: 12, steps: slices.Repeat(stepsFrom("0-11"), 60)})
}

// noNetworks returns networks that are not valid, most of them for one reason alone.
func noNetworks() []network {
	networks := []network{networkFrom(1, "0-1"), {lines: 2, steps: slices.Repeat(stepsFrom("0-1"), 61)}, {lines: 12, steps: slices.Repeat(stepsFrom("0-11"), 61)}, sampleNetwork(12, 61, 1), sampleNetwork(5, 100, 1)}
	for _, lines := range append([]int{0, 13, 14, -12}, farInts...) {
		networks = append(networks, network{lines: lines}, networkFrom(lines, "0-1"), networkFrom(lines, "0-0"), network{lines: lines, steps: []impl.Step{stepOf(lines-2, lines-1)}})
	}
	for _, lines := range []int{1, 2, 3, 11, 12} {
		for _, step := range noSteps(lines) {
			networks = append(networks, network{lines: lines, steps: []impl.Step{step}})
			valid := sampleNetwork(lines, 7, lines)
			networks = append(networks, withStep(valid, 0, step), withStep(valid, len(valid.steps)/2, step), withStep(valid, len(valid.steps), step))
			full := sampleNetwork(lines, 59, lines)
			networks = append(networks, withStep(full, len(full.steps), step))
		}
	}
	return networks
}

// noSteps returns steps that are not valid on that many lines.
func noSteps(lines int) []impl.Step {
	steps := []impl.Step{stepOf(0, 0), stepOf(lines-1, lines-1), stepOf(1, 0), stepOf(lines-1, 0), stepOf(lines, 0), stepOf(-1, -1), stepOf(-2, -1), stepOf(lines, lines+1)}
	for _, far := range append([]int{lines, lines + 1, 12, 13}, farInts...) {
		if far < 0 || far >= lines {
			steps = append(steps, stepOf(0, far), stepOf(lines-1, far), stepOf(far, lines-1), stepOf(far, 0), stepOf(far, far))
		}
	}
	return append(steps, stepOf(math.MinInt, math.MaxInt), stepOf(math.MaxInt, math.MinInt))
}

// networkByHand has all steps of the lines in a table.
func networkByHand(w network) bool {
	steps := map[impl.Step]bool{}
	if w.lines >= 1 && w.lines <= 12 {
		for _, step := range stepsOn(w.lines) {
			steps[step] = true
		}
	}
	return w.lines >= 1 && w.lines <= 12 && len(w.steps) <= 60 && !slices.ContainsFunc(w.steps, func(step impl.Step) bool { return !steps[step] })
}

// afterByHand puts the lesser one of two elements at Low, and the other one at High.
func afterByHand(l []impl.Step, x []int) []int {
	after := slices.Clone(x)
	for _, step := range l {
		after[step.Low], after[step.High] = min(after[step.Low], after[step.High]), max(after[step.Low], after[step.High])
	}
	return after
}

// eachOrder calls visit with all orders of the elements of a list.
func eachOrder(l []int, visit func(order []int)) {
	eachOrderFrom(slices.Clone(l), 0, visit)
}

func eachOrderFrom(l []int, fixed int, visit func(order []int)) {
	if fixed == len(l) {
		visit(l)
		return
	}
	for i := fixed; i < len(l); i++ {
		l[fixed], l[i] = l[i], l[fixed]
		eachOrderFrom(l, fixed+1, visit)
		l[fixed], l[i] = l[i], l[fixed]
	}
}

// sampleNumbers returns n numbers in -most..most that follow no short rule.
func sampleNumbers(n int, most int, seed int) []int {
	l := make([]int, n)
	state := uint64(seed)*2862933555777941757 + 3037000493
	for i := range l {
		state = state*6364136223846793005 + 1442695040888963407
		l[i] = int(state>>33%uint64(2*most+1)) - most
	}
	return l
}

// listsFor returns lists for a network: in many orders, with equal elements, with the least and the greatest ones.
func listsFor(lines int) [][]int {
	lists := [][]int{wiresInOrder(0, lines), wiresInOrder(-1000000, lines), repeated(0, lines), repeated(1000000, lines), repeated(-1000000, lines)}
	backward := wiresInOrder(1000001-lines, lines)
	slices.Reverse(backward)
	lists = append(lists, backward)
	for seed := range 20 {
		lists = append(lists, sampleNumbers(lines, 1000000, seed), sampleNumbers(lines, 1, seed), sampleNumbers(lines, 4, seed), sampleBits(lines, seed))
	}
	for i := range lines {
		low, high := repeated(1000000, lines), repeated(-1000000, lines)
		low[i], high[i] = -1000000, 1000000
		lists = append(lists, low, high)
	}
	return lists
}

// unsortedByHand returns the numbers of the lists of zeros and ones that a network does not sort.
func unsortedByHand(w network) []int {
	numbers := []int{}
	for number := range 1 << w.lines {
		if !slices.IsSorted(afterByHand(w.steps, bitsOfNumber(number, w.lines))) {
			numbers = append(numbers, number)
		}
	}
	return numbers
}

// layersByHand has for each step how many steps stand one behind the other before it.
func layersByHand(l []impl.Step) [][]int {
	layers, depths := [][]int{}, []int{}
	for k, step := range l {
		depth := 0
		for j, earlier := range l[:k] {
			if meet(earlier, step) {
				depth = max(depth, depths[j]+1)
			}
		}
		depths = append(depths, depth)
	}
	for depth := 0; slices.Contains(depths, depth); depth++ {
		layer := []int{}
		for k := range l {
			if depths[k] == depth {
				layer = append(layer, k)
			}
		}
		layers = append(layers, layer)
	}
	return layers
}

// meet reports whether two steps have a line in common.
func meet(x impl.Step, y impl.Step) bool {
	return x.Low == y.Low || x.Low == y.High || x.High == y.Low || x.High == y.High
}

// needlessByHand looks at what comes before each step by itself.
func needlessByHand(w network) []int {
	reached := map[int]bool{}
	for number := range 1 << w.lines {
		reached[number] = true
	}
	needless := []int{}
	for k, step := range w.steps {
		exchanges, next := false, map[int]bool{}
		for number := range reached {
			low, high := number>>step.Low&1, number>>step.High&1
			if low > high {
				exchanges = true
				number += 1<<step.High - 1<<step.Low
			}
			next[number] = true
		}
		if !exchanges {
			needless = append(needless, k)
		}
		reached = next
	}
	return needless
}

func insertionByHand(lines int) []impl.Step {
	l := []impl.Step{}
	for high := 1; high < lines; high++ {
		for line := high; line > 0; line-- {
			l = append(l, stepOf(line-1, line))
		}
	}
	return l
}

// mergeByHand goes through the exponents of the powers of two. The lines are taken in blocks of p of them, every other one.
func mergeByHand(lines int) []impl.Step {
	l := []impl.Step{}
	greatest := bits.Len(uint(lines-1)) - 1
	for exponent := greatest; exponent >= 0; exponent-- {
		p := 1 << exponent
		l = append(l, apartByHand(lines, p, p, 0)...)
		for above := greatest - exponent; above >= 1; above-- {
			l = append(l, apartByHand(lines, p, p*(1<<above-1), 1)...)
		}
	}
	return l
}

func apartByHand(lines int, block int, apart int, rest int) []impl.Step {
	l := []impl.Step{}
	for low := 0; low+apart < lines; low++ {
		if low/block%2 == rest {
			l = append(l, stepOf(low, low+apart))
		}
	}
	return l
}

// spareSteps are steps behind a list: some are valid, so that a function that takes them for steps of the list is found out.
func spareSteps() []impl.Step {
	return stepsFrom("0-1 7-7 0-2")
}

// sparedSteps returns a copy of l with such memory behind its length.
func sparedSteps(l []impl.Step) []impl.Step {
	return slices.Concat(l, spareSteps())[:len(l)]
}

// overwriteSteps writes to all memory of a list, so that what shares it shows.
func overwriteSteps(l []impl.Step) {
	whole := l[:cap(l)]
	for i := range whole {
		whole[i] = stepOf(-77, -77)
	}
}
