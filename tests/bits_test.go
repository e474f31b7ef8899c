package tests

import (
	"math"
	"slices"
	"strconv"
	"strings"
	"testing"

	"loop.example/g00877/impl"
)

// sampleLists returns several lists of every length of bits, with all zeros and all ones among them.
func sampleLists() [][]int {
	lists := [][]int{nil}
	for n := 0; n <= impl.MaxBits; n++ {
		lists = append(lists, repeated(0, n), repeated(1, n))
		for seed := range 6 {
			lists = append(lists, sampleBits(n, seed))
		}
	}
	return lists
}

func noBits() [][]int {
	return [][]int{
		{2}, {-1}, {256}, {math.MinInt}, {math.MaxInt}, {1 << 32}, {1<<32 + 1},
		{2, 0, 1}, {0, 2, 1}, {0, 1, 2}, {1, -1},
		append(repeated(0, impl.MaxBits-1), 2),
		repeated(0, impl.MaxBits+1), repeated(1, impl.MaxBits+1), repeated(0, 1000),
	}
}

func TestBitsLimits(t *testing.T) {
	if impl.MaxBits != 64 || impl.MaxWidth != 16 {
		t.Error("limits", impl.MaxBits, impl.MaxWidth)
	}
}

func TestAreBits(t *testing.T) {
	for _, l := range sampleLists() {
		if !impl.AreBits(l) {
			t.Errorf("AreBits(%v) = false", l)
		}
	}
	for _, l := range noBits() {
		if impl.AreBits(l) {
			t.Errorf("AreBits(%v) = true", l)
		}
	}
}

func TestNumbersAreReadBack(t *testing.T) {
	for width := 0; width <= impl.MaxWidth; width++ {
		for n := range 1 << width {
			l, ok := impl.BitsOf(n, width)
			if !ok || len(l) != width {
				t.Fatalf("BitsOf(%d, %d) = %v, %v", n, width, l, ok)
			}
			if back, ok := impl.NumberOf(l); !ok || back != n {
				t.Fatalf("NumberOf(%v) = %d, %v, want %d", l, back, ok, n)
			}
		}
	}
}

func TestNumberOfValues(t *testing.T) {
	for _, c := range []struct {
		l    []int
		want int
	}{
		{nil, 0}, {[]int{}, 0}, {[]int{0}, 0}, {[]int{1}, 1}, {[]int{1, 0, 0}, 1}, {[]int{0, 0, 1}, 4}, {[]int{1, 1, 0}, 3},
		{repeated(0, 16), 0}, {repeated(1, 16), 65535}, {append(repeated(0, 15), 1), 32768},
	} {
		if n, ok := impl.NumberOf(c.l); !ok || n != c.want {
			t.Errorf("NumberOf(%v) = %d, %v, want %d", c.l, n, ok, c.want)
		}
	}
	for _, l := range sampleLists() {
		n, ok := impl.NumberOf(l)
		if ok != (len(l) <= impl.MaxWidth) || !ok && n != 0 {
			t.Errorf("NumberOf(%v) = %d, %v", l, n, ok)
		}
		if back, _ := impl.BitsOf(n, len(l)); ok && !slices.Equal(back, l) {
			t.Errorf("BitsOf(%d, %d) = %v, want %v", n, len(l), back, l)
		}
	}
}

func TestBitsOfInvalid(t *testing.T) {
	for _, c := range [][2]int{
		{0, -1}, {0, 17}, {1, 17}, {0, math.MinInt}, {0, math.MaxInt}, {0, 64}, {0, 65}, {-1, -1},
		{1, 0}, {-1, 0}, {2, 1}, {-1, 1}, {8, 3}, {-1, 16}, {65536, 16}, {math.MinInt, 16}, {math.MaxInt, 16}, {1 << 32, 8},
	} {
		if l, ok := impl.BitsOf(c[0], c[1]); ok || len(l) != 0 {
			t.Errorf("BitsOf(%d, %d) = %v, %v", c[0], c[1], l, ok)
		}
	}
}

func TestSignedOf(t *testing.T) {
	for width := 1; width <= impl.MaxWidth; width++ {
		for n := -1 << (width - 1); n < 1<<(width-1); n++ {
			l, ok := impl.BitsOf(n&(1<<width-1), width)
			if !ok {
				t.Fatalf("BitsOf fails for the width %d", width)
			}
			if got, ok := impl.SignedOf(l); !ok || got != n {
				t.Fatalf("SignedOf(%v) = %d, %v, want %d", l, got, ok, n)
			}
		}
	}
	for _, l := range [][]int{nil, {}, repeated(0, 17), repeated(1, 17), repeated(1, 64)} {
		if n, ok := impl.SignedOf(l); ok || n != 0 {
			t.Errorf("SignedOf(%v) = %d, %v", l, n, ok)
		}
	}
}

func TestTextsAreReadBack(t *testing.T) {
	for _, l := range sampleLists() {
		s, ok := impl.BitsText(l)
		if want := textByHand(l); !ok || s != want {
			t.Errorf("BitsText(%v) = %q, %v, want %q", l, s, ok, want)
		}
		if back, ok := impl.ParseBits(s); !ok || !slices.Equal(back, l) {
			t.Errorf("ParseBits(%q) = %v, %v, want %v", s, back, ok, l)
		}
	}
}

func textByHand(l []int) string {
	s := ""
	for _, bit := range l {
		s = strconv.Itoa(bit) + s
	}
	return s
}

func TestParseBitsEdges(t *testing.T) {
	for _, c := range []struct {
		s    string
		want []int
	}{
		{"", nil}, {"0", []int{0}}, {"1", []int{1}}, {"011", []int{1, 1, 0}}, {"100", []int{0, 0, 1}},
		{strings.Repeat("0", 64), repeated(0, 64)}, {"1" + strings.Repeat("0", 63), append(repeated(0, 63), 1)},
	} {
		if l, ok := impl.ParseBits(c.s); !ok || !slices.Equal(l, c.want) {
			t.Errorf("ParseBits(%q) = %v, %v, want %v", c.s, l, ok, c.want)
		}
	}
	for _, s := range []string{
		"2", "a", " ", "-1", "+1", "0 1", " 01", "01 ", "01\n", "\n", "\x00", "0\x001", "0b1", "/", ":", "201", "021", "012",
		"\xff", "01\xff", "\xb0", "\uff10", "1\uff11", "\u0130", "\u0131", "\u0660",
		strings.Repeat("0", 65), strings.Repeat("1", 65), strings.Repeat("0", 5000), strings.Repeat("0", 63) + "2",
	} {
		if l, ok := impl.ParseBits(s); ok || len(l) != 0 {
			t.Errorf("ParseBits(%q) = %v, %v", s, l, ok)
		}
	}
}

func TestTurnsKeepTheWeight(t *testing.T) {
	for n := 0; n <= impl.MaxBits; n++ {
		l := sampleBits(n, n)
		weight, ok := impl.WeightOf(l)
		if !ok {
			t.Fatalf("WeightOf(%v) fails", l)
		}
		for k := -1000; k <= 1000; k++ {
			turned, ok := impl.TurnBits(l, k)
			if !ok || !slices.Equal(turned, turnedByHand(l, k)) {
				t.Fatalf("TurnBits(%v, %d) = %v, %v", l, k, turned, ok)
			}
			if w, ok := impl.WeightOf(turned); !ok || w != weight {
				t.Fatalf("WeightOf(%v) = %d, %v, want %d", turned, w, ok, weight)
			}
		}
	}
}

func turnedByHand(l []int, k int) []int {
	out := slices.Clone(l)
	if len(l) == 0 {
		return out
	}
	for k < 0 {
		k += len(l)
	}
	for k >= len(l) {
		k -= len(l)
	}
	return append(out[k:], out[:k]...)
}

func TestTurnBitsEdges(t *testing.T) {
	l := []int{1, 1, 0}
	for _, c := range []struct {
		k    int
		want []int
	}{
		{0, []int{1, 1, 0}}, {1, []int{1, 0, 1}}, {2, []int{0, 1, 1}}, {3, []int{1, 1, 0}}, {-1, []int{0, 1, 1}},
		{1000, []int{1, 0, 1}}, {-1000, []int{0, 1, 1}},
	} {
		if got, ok := impl.TurnBits(l, c.k); !ok || !slices.Equal(got, c.want) {
			t.Errorf("TurnBits(%v, %d) = %v, %v, want %v", l, c.k, got, ok, c.want)
		}
	}
	for _, k := range []int{-1000, 0, 1000} {
		if got, ok := impl.TurnBits(nil, k); !ok || len(got) != 0 {
			t.Errorf("TurnBits(nil, %d) = %v, %v", k, got, ok)
		}
	}
	for _, k := range []int{-1001, 1001, 1 << 32, math.MinInt, math.MaxInt} {
		for _, l := range [][]int{nil, {1}, {1, 1, 0}, repeated(1, 64)} {
			if got, ok := impl.TurnBits(l, k); ok || len(got) != 0 {
				t.Errorf("TurnBits(%v, %d) = %v, %v", l, k, got, ok)
			}
		}
	}
}

func TestWeightOf(t *testing.T) {
	for _, l := range sampleLists() {
		want := strings.Count(textByHand(l), "1")
		if w, ok := impl.WeightOf(l); !ok || w != want {
			t.Errorf("WeightOf(%v) = %d, %v, want %d", l, w, ok, want)
		}
	}
}

func TestXorNotAndParity(t *testing.T) {
	for n := 0; n <= impl.MaxBits; n++ {
		for seed := range 6 {
			a, b := sampleBits(n, seed), sampleBits(n, seed+100)
			differing, exchanged, both := make([]int, n), make([]int, n), 0
			for i := range n {
				if a[i] != b[i] {
					differing[i] = 1
				}
				if a[i] == 0 {
					exchanged[i] = 1
				}
				if a[i] == 1 && b[i] == 1 {
					both++
				}
			}
			if x, ok := impl.XorBits(a, b); !ok || !slices.Equal(x, differing) {
				t.Errorf("XorBits(%v, %v) = %v, %v", a, b, x, ok)
			}
			if x, ok := impl.NotBits(a); !ok || !slices.Equal(x, exchanged) {
				t.Errorf("NotBits(%v) = %v, %v", a, x, ok)
			}
			if p, ok := impl.ParityOf(a, b); !ok || p != both%2 {
				t.Errorf("ParityOf(%v, %v) = %d, %v", a, b, p, ok)
			}
		}
	}
}

func TestUnequalLengths(t *testing.T) {
	for _, c := range [][2][]int{
		{nil, {0}}, {{1}, nil}, {{1, 0}, {1}}, {{1}, {1, 0}}, {repeated(1, 64), repeated(1, 63)}, {repeated(1, 63), repeated(1, 64)},
	} {
		if x, ok := impl.XorBits(c[0], c[1]); ok || len(x) != 0 {
			t.Errorf("XorBits(%v, %v) = %v, %v", c[0], c[1], x, ok)
		}
		if p, ok := impl.ParityOf(c[0], c[1]); ok || p != 0 {
			t.Errorf("ParityOf(%v, %v) = %d, %v", c[0], c[1], p, ok)
		}
	}
}

// listCalls are the functions that take bits, by name. Each returns the list that the function
// returned, if it is one that does, whether its first result was the zero value, and its last result.
func listCalls() map[string]func(l []int) ([]int, bool, bool) {
	number := func(n int, ok bool) ([]int, bool, bool) { return nil, n == 0, ok }
	list := func(l []int, ok bool) ([]int, bool, bool) { return l, len(l) == 0, ok }
	return map[string]func(l []int) ([]int, bool, bool){
		"NumberOf":        func(l []int) ([]int, bool, bool) { return number(impl.NumberOf(l)) },
		"XorBits first":   func(l []int) ([]int, bool, bool) { return list(impl.XorBits(l, repeated(0, len(l)))) },
		"XorBits second":  func(l []int) ([]int, bool, bool) { return list(impl.XorBits(repeated(0, len(l)), l)) },
		"NotBits":         func(l []int) ([]int, bool, bool) { return list(impl.NotBits(l)) },
		"TurnBits":        func(l []int) ([]int, bool, bool) { return list(impl.TurnBits(l, 0)) },
		"TurnBits on":     func(l []int) ([]int, bool, bool) { return list(impl.TurnBits(l, 5)) },
		"WeightOf":        func(l []int) ([]int, bool, bool) { return number(impl.WeightOf(l)) },
		"ParityOf first":  func(l []int) ([]int, bool, bool) { return number(impl.ParityOf(l, repeated(1, len(l)))) },
		"ParityOf second": func(l []int) ([]int, bool, bool) { return number(impl.ParityOf(repeated(1, len(l)), l)) },
		"SignedOf":        func(l []int) ([]int, bool, bool) { return number(impl.SignedOf(l)) },
		"BitsText": func(l []int) ([]int, bool, bool) {
			s, ok := impl.BitsText(l)
			return nil, s == "", ok
		},
	}
}

func TestNoBitsGiveZeroValues(t *testing.T) {
	for name, call := range listCalls() {
		for _, l := range noBits() {
			arg := spared(l)
			if _, zero, ok := call(arg); ok || !zero {
				t.Errorf("%s accepts %v", name, l)
			}
			checkKept(t, name, arg, l)
		}
	}
}

func TestBitsAreNeitherChangedNorShared(t *testing.T) {
	for name, call := range listCalls() {
		for _, l := range sampleLists() {
			arg := spared(l)
			result, _, _ := call(arg)
			checkKept(t, name, arg, l)
			checkNew(t, name, result, arg)
		}
	}
	for _, l := range sampleLists() {
		arg := spared(l)
		if !impl.AreBits(arg) {
			t.Errorf("AreBits(%v) = false", l)
		}
		checkKept(t, "AreBits", arg, l)
	}
}

func TestPairsOfBitsAreNeitherChangedNorShared(t *testing.T) {
	for n := 0; n <= impl.MaxBits; n++ {
		a, b := sampleBits(n, 1), sampleBits(n, 2)
		x, y := spared(a), spared(b)
		result, _ := impl.XorBits(x, y)
		checkNew(t, "XorBits", result, x, y)
		impl.ParityOf(x, y)
		checkKept(t, "XorBits and ParityOf", x, a)
		checkKept(t, "XorBits and ParityOf", y, b)
	}
}

// The first result is written over between two calls, so that a list kept from call to call shows.
func TestResultsAreNewEachTime(t *testing.T) {
	l := []int{1, 1, 0, 1}
	for name, call := range map[string]func() ([]int, bool){
		"BitsOf":    func() ([]int, bool) { return impl.BitsOf(11, 4) },
		"XorBits":   func() ([]int, bool) { return impl.XorBits(l, []int{0, 0, 0, 0}) },
		"NotBits":   func() ([]int, bool) { return impl.NotBits([]int{0, 0, 1, 0}) },
		"TurnBits":  func() ([]int, bool) { return impl.TurnBits(l, 4) },
		"ParseBits": func() ([]int, bool) { return impl.ParseBits("1011") },
	} {
		first, ok := call()
		if !ok || !slices.Equal(first, l) {
			t.Errorf("%s = %v, %v", name, first, ok)
		}
		for i := range first {
			first[i] = 9
		}
		if second, ok := call(); !ok || !slices.Equal(second, l) {
			t.Errorf("%s, again, = %v, %v", name, second, ok)
		}
	}
}

func TestBitsExample(t *testing.T) {
	l := []int{1, 1, 0}
	if n, ok := impl.NumberOf(l); !ok || n != 3 {
		t.Error("NumberOf", n, ok)
	}
	if s, ok := impl.BitsText(l); !ok || s != "011" {
		t.Error("BitsText", s, ok)
	}
	if turned, ok := impl.TurnBits(l, 1); !ok || !slices.Equal(turned, []int{1, 0, 1}) {
		t.Error("TurnBits", turned, ok)
	}
	if n, ok := impl.SignedOf([]int{1, 0, 1}); !ok || n != -3 {
		t.Error("SignedOf", n, ok)
	}
}
