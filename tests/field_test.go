package tests

import (
	"math"
	"slices"
	"testing"

	"loop.example/g00877/impl"
)

// primes are written out so that they do not come from the program.
var primes = []int{
	2, 3, 5, 7, 11, 13, 17, 19, 23, 29, 31, 37, 41, 43, 47, 53, 59, 61, 67, 71, 73, 79, 83, 89, 97,
	101, 103, 107, 109, 113, 127, 131, 137, 139, 149, 151, 157, 163, 167, 173, 179, 181, 191, 193,
	197, 199, 211, 223, 227, 229, 233, 239, 241, 251,
}

// noFields has the numbers next to the primes 2 and 251, primes that are too large and squares of primes.
func noFields() []int {
	return []int{
		math.MinInt, -7, -3, -2, -1, 0, 1, 4, 6, 8, 9, 25, 49, 121, 169, 221, 247, 249, 250, 252, 253, 255,
		256, 257, 263, 1009, 65537, 1<<32 + 2, 1<<32 + 7, math.MaxInt,
	}
}

// noElements returns integers that are no elements of the field of p.
func noElements(p int) []int {
	return []int{math.MinInt, -1 << 32, -p, -1, p, p + 1, 2 * p, 1 << 32, 1<<32 + 1, math.MaxInt}
}

// sampleElements returns n elements that follow no short rule, the same ones for the same seed.
func sampleElements(p int, n int, seed int) []int {
	l := make([]int, n)
	state := uint64(seed)*2862933555777941757 + uint64(p)
	for i := range l {
		state = state*6364136223846793005 + 1442695040888963407
		l[i] = int(state >> 33 % uint64(p))
	}
	return l
}

// samplePoints returns n different elements that follow no short rule.
func samplePoints(p int, n int, seed int) []int {
	all := make([]int, p)
	for i := range all {
		all[i] = i
	}
	for i, r := range sampleElements(1<<20, p, seed) {
		j := i + r%(p-i)
		all[i], all[j] = all[j], all[i]
	}
	return all[:n:n]
}

// polyByHand adds up the terms of a polynomial with powers made by multiplying.
func polyByHand(p int, coeffs []int, x int) int {
	sum := 0
	for i, c := range coeffs {
		term := c
		for range i {
			term = term * x % p
		}
		sum += term
	}
	return sum % p
}

func TestFieldLimits(t *testing.T) {
	if impl.MaxPrime != 251 || impl.MaxPoints != 12 {
		t.Error("limits", impl.MaxPrime, impl.MaxPoints)
	}
}

func TestIsPrime(t *testing.T) {
	for p := -300; p <= 1100; p++ {
		if got := impl.IsPrime(p); got != slices.Contains(primes, p) {
			t.Errorf("IsPrime(%d) = %v", p, got)
		}
	}
	for _, p := range noFields() {
		if impl.IsPrime(p) {
			t.Errorf("IsPrime(%d) = true", p)
		}
	}
}

func TestSumsAndProducts(t *testing.T) {
	for _, p := range primes {
		for a := range p {
			for b := range p {
				sum, ok1 := impl.AddMod(p, a, b)
				product, ok2 := impl.MulMod(p, a, b)
				if !ok1 || sum != (a+b)%p {
					t.Fatalf("AddMod(%d, %d, %d) = %d, %v", p, a, b, sum, ok1)
				}
				if !ok2 || product != a*b%p {
					t.Fatalf("MulMod(%d, %d, %d) = %d, %v", p, a, b, product, ok2)
				}
			}
		}
	}
}

func TestInversesAreUndone(t *testing.T) {
	for _, p := range primes {
		for b := 1; b < p; b++ {
			inverse, ok := impl.InverseMod(p, b)
			if one, _ := impl.MulMod(p, b, inverse); !ok || one != 1 {
				t.Fatalf("InverseMod(%d, %d) = %d, %v", p, b, inverse, ok)
			}
			for a := range p {
				quotient, ok := impl.DivideMod(p, a, b)
				if back, _ := impl.MulMod(p, quotient, b); !ok || back != a {
					t.Fatalf("DivideMod(%d, %d, %d) = %d, %v", p, a, b, quotient, ok)
				}
			}
		}
		if n, ok := impl.InverseMod(p, 0); ok || n != 0 {
			t.Errorf("InverseMod(%d, 0) = %d, %v", p, n, ok)
		}
		for _, a := range []int{0, 1, p - 1} {
			if n, ok := impl.DivideMod(p, a, 0); ok || n != 0 {
				t.Errorf("DivideMod(%d, %d, 0) = %d, %v", p, a, n, ok)
			}
		}
	}
}

func TestPowersFollowTheOrder(t *testing.T) {
	for _, p := range primes {
		for a := 1; a < p; a++ {
			powers := []int{1}
			for power := a; power != 1; power = power * a % p {
				powers = append(powers, power)
			}
			if order, ok := impl.OrderMod(p, a); !ok || order != len(powers) {
				t.Fatalf("OrderMod(%d, %d) = %d, %v, want %d", p, a, order, ok, len(powers))
			}
			for _, n := range []int{0, 1, 2, 3, 4, 5, p - 2, p - 1, p, 1023, 1024, 65535, 524288, 999999, 1000000} {
				if got, ok := impl.PowMod(p, a, n); !ok || got != powers[n%len(powers)] {
					t.Fatalf("PowMod(%d, %d, %d) = %d, %v", p, a, n, got, ok)
				}
			}
		}
		if n, ok := impl.OrderMod(p, 0); ok || n != 0 {
			t.Errorf("OrderMod(%d, 0) = %d, %v", p, n, ok)
		}
		for n, want := range map[int]int{0: 1, 1: 0, 2: 0, 1000000: 0} {
			if got, ok := impl.PowMod(p, 0, n); !ok || got != want {
				t.Errorf("PowMod(%d, 0, %d) = %d, %v, want %d", p, n, got, ok, want)
			}
		}
	}
}

func TestPowModOfEachPower(t *testing.T) {
	for _, p := range []int{2, 3, 7, 251} {
		for _, a := range []int{0, 1, p / 2, p - 1} {
			want := 1
			for n := range 1000 {
				if got, ok := impl.PowMod(p, a, n); !ok || got != want {
					t.Fatalf("PowMod(%d, %d, %d) = %d, %v, want %d", p, a, n, got, ok, want)
				}
				want = want * a % p
			}
			for _, n := range []int{math.MinInt, -1, 1000001, 1 << 32, math.MaxInt} {
				if got, ok := impl.PowMod(p, a, n); ok || got != 0 {
					t.Errorf("PowMod(%d, %d, %d) = %d, %v", p, a, n, got, ok)
				}
			}
		}
	}
}

func TestEvalPoly(t *testing.T) {
	for _, p := range primes {
		for n := 0; n <= impl.MaxPoints; n++ {
			for _, coeffs := range [][]int{sampleElements(p, n, n), repeated(0, n), repeated(p-1, n)} {
				for x := range p {
					if got, ok := impl.EvalPoly(p, coeffs, x); !ok || got != polyByHand(p, coeffs, x) {
						t.Fatalf("EvalPoly(%d, %v, %d) = %d, %v", p, coeffs, x, got, ok)
					}
				}
			}
		}
	}
}

func TestPolynomialsHaveTheirValues(t *testing.T) {
	for _, p := range primes {
		for n := 0; n <= min(p, impl.MaxPoints); n++ {
			for seed := range 3 {
				checkInterpolation(t, p, samplePoints(p, n, seed), sampleElements(p, n, seed+n))
			}
			checkInterpolation(t, p, samplePoints(p, n, 7), repeated(0, n))
			checkInterpolation(t, p, samplePoints(p, n, 8), repeated(p-1, n))
		}
	}
}

// checkInterpolation uses that only one polynomial with as many coefficients as points has the values.
func checkInterpolation(t *testing.T, p int, xs []int, ys []int) {
	t.Helper()
	coeffs, ok := impl.PolyThrough(p, xs, ys)
	if !ok || len(coeffs) != len(xs) {
		t.Fatalf("PolyThrough(%d, %v, %v) = %v, %v", p, xs, ys, coeffs, ok)
	}
	for i, x := range xs {
		if value, ok := impl.EvalPoly(p, coeffs, x); !ok || value != ys[i] {
			t.Fatalf("PolyThrough(%d, %v, %v) = %v: value at %d is %d, %v", p, xs, ys, coeffs, x, value, ok)
		}
	}
	for x := range p {
		if value, ok := impl.InterpolateAt(p, xs, ys, x); !ok || value != polyByHand(p, coeffs, x) {
			t.Fatalf("InterpolateAt(%d, %v, %v, %d) = %d, %v", p, xs, ys, x, value, ok)
		}
	}
}

// Polynomials of a degree less than the number of points come back with zeros for the other coefficients.
func TestPolynomialsAreReadBack(t *testing.T) {
	for _, p := range primes {
		n := min(p, impl.MaxPoints)
		xs := samplePoints(p, n, 1)
		for size := 0; size <= n; size++ {
			coeffs := append(sampleElements(p, size, 2), repeated(0, n-size)...)
			ys := make([]int, n)
			for i, x := range xs {
				ys[i] = polyByHand(p, coeffs, x)
			}
			if got, ok := impl.PolyThrough(p, xs, ys); !ok || !slices.Equal(got, coeffs) {
				t.Errorf("PolyThrough(%d, %v, %v) = %v, %v, want %v", p, xs, ys, got, ok, coeffs)
			}
		}
	}
}

func TestNoPointsAndNoCoefficients(t *testing.T) {
	for _, p := range primes {
		for _, x := range []int{0, 1, p - 1} {
			for _, none := range [][]int{nil, {}} {
				if n, ok := impl.EvalPoly(p, none, x); !ok || n != 0 {
					t.Errorf("EvalPoly(%d, none, %d) = %d, %v", p, x, n, ok)
				}
				if n, ok := impl.InterpolateAt(p, none, nil, x); !ok || n != 0 {
					t.Errorf("InterpolateAt(%d, none, none, %d) = %d, %v", p, x, n, ok)
				}
				if l, ok := impl.PolyThrough(p, none, nil); !ok || len(l) != 0 {
					t.Errorf("PolyThrough(%d, none, none) = %v, %v", p, l, ok)
				}
			}
		}
	}
}

// invalidPoints returns lists that are no points of the field of p, for p of at least 17.
func invalidPoints(p int) [][2][]int {
	lists := [][2][]int{
		{{1}, nil}, {nil, {1}}, {{1, 2}, {3}}, {{1}, {3, 4}},
		{{1, 1}, {3, 3}}, {{1, 1}, {3, 4}}, {{0, 1, 2, 0}, {1, 2, 3, 1}}, {{0, 5, 5, 3}, {1, 2, 3, 4}},
		{samplePoints(p, 13, 1), sampleElements(p, 13, 1)}, {samplePoints(p, 13, 1), sampleElements(p, 12, 1)},
		{samplePoints(p, 12, 1), sampleElements(p, 13, 1)}, {samplePoints(p, 12, 1), sampleElements(p, 11, 1)},
	}
	for _, a := range noElements(p) {
		lists = append(lists,
			[2][]int{{a}, {1}}, [2][]int{{1}, {a}}, [2][]int{{1, 2, a}, {1, 2, 3}}, [2][]int{{1, 2, 3}, {1, 2, a}},
			[2][]int{{a, 2, 3}, {1, 2, 3}}, [2][]int{{1, 2, 3}, {a, 2, 3}})
	}
	return lists
}

func TestInvalidPolynomials(t *testing.T) {
	for _, p := range []int{17, 31, 251} {
		for _, l := range invalidPoints(p) {
			checkPointsFail(t, p, l[0], l[1], 1)
		}
		lists := [][]int{repeated(0, 13), repeated(1, 13), sampleElements(p, 1000, 1)}
		for _, a := range noElements(p) {
			checkPointsFail(t, p, []int{1, 2}, []int{3, 5}, a)
			checkEvalFails(t, p, []int{1, 2}, a)
			checkEvalFails(t, p, nil, a)
			lists = append(lists, []int{a}, []int{1, a}, []int{a, 1}, append(repeated(0, 11), a))
		}
		for _, l := range lists {
			checkEvalFails(t, p, l, 1)
		}
	}
	for _, p := range noFields() {
		checkPointsFail(t, p, []int{0, 1}, []int{1, 1}, 0)
		checkPointsFail(t, p, nil, nil, 0)
		checkEvalFails(t, p, []int{1, 0}, 1)
		checkEvalFails(t, p, nil, 0)
	}
	// The field of 2 has only two points.
	checkPointsFail(t, 2, []int{0, 1, 0}, []int{0, 0, 0}, 0)
	checkPointsFail(t, 2, []int{0, 1, 2}, []int{0, 0, 0}, 0)
}

// checkPointsFail does not call PolyThrough, which takes no x, unless x is an element of every field.
func checkPointsFail(t *testing.T, p int, xs []int, ys []int, x int) {
	t.Helper()
	a, b := spared(xs), spared(ys)
	if n, ok := impl.InterpolateAt(p, a, b, x); ok || n != 0 {
		t.Errorf("InterpolateAt(%d, %v, %v, %d) = %d, %v", p, xs, ys, x, n, ok)
	}
	if x == 0 || x == 1 {
		if l, ok := impl.PolyThrough(p, a, b); ok || len(l) != 0 {
			t.Errorf("PolyThrough(%d, %v, %v) = %v, %v", p, xs, ys, l, ok)
		}
	}
	checkKept(t, "invalid points", a, xs)
	checkKept(t, "invalid points", b, ys)
}

func checkEvalFails(t *testing.T, p int, coeffs []int, x int) {
	t.Helper()
	a := spared(coeffs)
	if n, ok := impl.EvalPoly(p, a, x); ok || n != 0 {
		t.Errorf("EvalPoly(%d, %v, %d) = %d, %v", p, coeffs, x, n, ok)
	}
	checkKept(t, "EvalPoly", a, coeffs)
}

// elementCalls are the functions that take single elements, by name, with 1 for the elements that are not asked about.
func elementCalls() map[string]func(p int, a int) (int, bool) {
	return map[string]func(p int, a int) (int, bool){
		"AddMod first":     func(p int, a int) (int, bool) { return impl.AddMod(p, a, 1) },
		"AddMod second":    func(p int, a int) (int, bool) { return impl.AddMod(p, 1, a) },
		"MulMod first":     func(p int, a int) (int, bool) { return impl.MulMod(p, a, 1) },
		"MulMod second":    func(p int, a int) (int, bool) { return impl.MulMod(p, 1, a) },
		"PowMod":           func(p int, a int) (int, bool) { return impl.PowMod(p, a, 1) },
		"PowMod 0":         func(p int, a int) (int, bool) { return impl.PowMod(p, a, 0) },
		"InverseMod":       impl.InverseMod,
		"DivideMod first":  func(p int, a int) (int, bool) { return impl.DivideMod(p, a, 1) },
		"DivideMod second": func(p int, a int) (int, bool) { return impl.DivideMod(p, 1, a) },
		"OrderMod":         impl.OrderMod,
	}
}

func TestInvalidElements(t *testing.T) {
	for name, call := range elementCalls() {
		for _, p := range noFields() {
			for _, a := range []int{0, 1, p - 1} {
				if n, ok := call(p, a); ok || n != 0 {
					t.Errorf("%s of %d in the field of %d is %d, %v", name, a, p, n, ok)
				}
			}
		}
		for _, p := range primes {
			for _, a := range noElements(p) {
				if n, ok := call(p, a); ok || n != 0 {
					t.Errorf("%s of %d in the field of %d is %d, %v", name, a, p, n, ok)
				}
			}
			if _, ok := call(p, p-1); !ok {
				t.Errorf("%s of %d in the field of %d fails", name, p-1, p)
			}
		}
	}
}

func TestPolynomialsKeepTheirArguments(t *testing.T) {
	for _, p := range primes {
		for n := 0; n <= min(p, impl.MaxPoints); n++ {
			xs, ys := samplePoints(p, n, 3), sampleElements(p, n, 4)
			a, b := spared(xs), spared(ys)
			value, ok := impl.InterpolateAt(p, a, b, p-1)
			if want, _ := impl.InterpolateAt(p, xs, ys, p-1); !ok || value != want {
				t.Errorf("InterpolateAt(%d, %v, %v, %d) = %d, %v", p, xs, ys, p-1, value, ok)
			}
			value, ok = impl.EvalPoly(p, b, p-1)
			if !ok || value != polyByHand(p, ys, p-1) {
				t.Errorf("EvalPoly(%d, %v, %d) = %d, %v", p, ys, p-1, value, ok)
			}
			coeffs, _ := impl.PolyThrough(p, a, b)
			checkKept(t, "PolyThrough and others", a, xs)
			checkKept(t, "PolyThrough and others", b, ys)
			checkNew(t, "PolyThrough", coeffs, a, b)
		}
	}
}

func TestFieldExample(t *testing.T) {
	if n, ok := impl.InverseMod(7, 3); n != 5 || !ok {
		t.Error("InverseMod", n, ok)
	}
	if n, ok := impl.OrderMod(7, 2); n != 3 || !ok {
		t.Error("OrderMod", n, ok)
	}
	if n, ok := impl.EvalPoly(7, []int{1, 2}, 4); n != 2 || !ok {
		t.Error("EvalPoly", n, ok)
	}
	if l, ok := impl.PolyThrough(7, []int{1, 2}, []int{3, 5}); !ok || !slices.Equal(l, []int{1, 2}) {
		t.Error("PolyThrough", l, ok)
	}
}
