package tests

import (
	"testing"

	"loop.example/g00877/impl"
)

// constantLike returns a valid circuit with the sizes of another one, as near as can be, whose outs are 1.
func constantLike(c impl.Circuit) impl.Circuit {
	in0, in1 := min(max(c.In0, 0), impl.MaxInputs), min(max(c.In1, 0), impl.MaxInputs)
	return circuitOf(in0, in1, []impl.Gate{oneGate()}, repeated(in0+in1, min(len(c.Outs), impl.MaxOuts))...)
}

// simplifyCalls are the functions of the chapter, by name, with other arguments that fit a circuit.
func simplifyCalls() map[string]func(c impl.Circuit) circuitResult {
	circuit := func(c impl.Circuit, ok bool) circuitResult { return circuitResult{circuit: c, ok: ok} }
	list := func(l []int, ok bool) circuitResult { return circuitResult{list: l, ok: ok} }
	number := func(n int, ok bool) circuitResult { return circuitResult{numbers: [2]int{n, 0}, ok: ok} }
	equal := func(is bool, ok bool) circuitResult { return circuitResult{numbers: [2]int{oneIf(is), 0}, ok: ok} }
	return map[string]func(c impl.Circuit) circuitResult{
		"ConstantWires":       func(c impl.Circuit) circuitResult { return list(impl.ConstantWires(c)) },
		"MergeGates":          func(c impl.Circuit) circuitResult { return circuit(impl.MergeGates(c)) },
		"DropDead":            func(c impl.Circuit) circuitResult { return circuit(impl.DropDead(c)) },
		"SimplifyCircuit":     func(c impl.Circuit) circuitResult { return circuit(impl.SimplifyCircuit(c)) },
		"AreEqual both":       func(c impl.Circuit) circuitResult { return equal(impl.AreEqual(c, c)) },
		"AreEqual first":      func(c impl.Circuit) circuitResult { return equal(impl.AreEqual(c, constantLike(c))) },
		"AreEqual second":     func(c impl.Circuit) circuitResult { return equal(impl.AreEqual(constantLike(c), c)) },
		"FirstUnequal both":   func(c impl.Circuit) circuitResult { return number(impl.FirstUnequal(c, c)) },
		"FirstUnequal first":  func(c impl.Circuit) circuitResult { return number(impl.FirstUnequal(c, constantLike(c))) },
		"FirstUnequal second": func(c impl.Circuit) circuitResult { return number(impl.FirstUnequal(constantLike(c), c)) },
		"DependsOn":           func(c impl.Circuit) circuitResult { return list(impl.DependsOn(c, 0)) },
		"OnesOf":              func(c impl.Circuit) circuitResult { return number(impl.OnesOf(c, 0)) },
		"EqualOuts":           func(c impl.Circuit) circuitResult { return list(impl.EqualOuts(c)) },
	}
}

func TestNoCircuitsAreSimplified(t *testing.T) {
	checkNoCircuits(t, simplifyCalls())
}

func TestSimplifiedCircuitsAreNeitherChangedNorShared(t *testing.T) {
	checkNewResults(t, simplifyCalls(), func(name string, c impl.Circuit) bool {
		small := c.In0+c.In1 <= 10
		switch name {
		case "ConstantWires", "MergeGates", "DropDead":
			return true
		case "SimplifyCircuit":
			_, simplified := simplifiedByHand(c)
			return len(simplified.Gates) <= 300
		case "FirstUnequal both":
			return false
		case "FirstUnequal first", "FirstUnequal second":
			return small && firstUnequalByHand(c, constantLike(c)) >= 0
		case "DependsOn", "OnesOf":
			return small && len(c.Outs) > 0
		}
		return small
	})
}

// Both circuits are small and have spare memory here, and so many outs that each of them is looked at.
func TestComparedCircuitsAreNotChanged(t *testing.T) {
	for seed := range 60 {
		c, d := sampleCircuit(2, 3, seed, seed%41, seed), sampleCircuit(2, 3, 60-seed, seed%41, seed+500)
		x, y := sparedCircuit(c), sparedCircuit(d)
		impl.AreEqual(x, y)
		impl.FirstUnequal(x, y)
		impl.EqualOuts(x)
		for k := range d.Outs {
			impl.DependsOn(y, k)
			impl.OnesOf(y, k)
		}
		checkKeptCircuit(t, "a comparison", x, c)
		checkKeptCircuit(t, "a comparison", y, d)
	}
}

// What has no gates to change is taken over as it is, but into new memory.
func TestUnchangedCircuitsAreNew(t *testing.T) {
	c := circuitOf(2, 2, []impl.Gate{andGate(0, 2), notGate(3), andGate(5, 4), xorGate(6, 1)}, 7, 0, 7, 4)
	for name, call := range simplifyCalls() {
		if name != "MergeGates" && name != "DropDead" {
			continue
		}
		arg := sparedCircuit(c)
		r := call(arg)
		if !r.ok || !sameCircuit(r.circuit, c) {
			t.Errorf("%s(%v) = %v", name, c, r)
		}
		r.overwrite()
		checkKeptCircuit(t, name, arg, c)
	}
}
