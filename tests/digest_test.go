package tests

import (
	"math"
	"slices"
	"strings"
	"testing"

	"loop.example/g00877/impl"
)

const maxWord = 1000000000

// digestByHand steps through the residues below zero by adding the modulus, and does without the program.
func digestByHand(l ...int) int {
	a := 40503 + len(l)
	for _, x := range append(slices.Clone(l), 8, 1) {
		a = (25214*a + x + 17) % 1000003
		for a < 0 {
			a += 1000003
		}
		a = a * (a>>6 + 5) % 1000003
	}
	return a & 0xffff
}

// joined returns a new list of l and more.
func joined(l []int, more ...int) []int {
	return append(slices.Clone(l), more...)
}

// sampleWords returns n words that follow no short rule, about half of them negative.
func sampleWords(n int, seed int) []int {
	l := sampleElements(2*maxWord+1, n, seed)
	for i := range l {
		l[i] -= maxWord
	}
	return l
}

// wordLists returns lists of words of all sizes up to most, with the edges of words among them.
func wordLists(most int) [][]int {
	lists := [][]int{nil, {}}
	for n := 1; n <= most; n++ {
		for _, x := range []int{0, 1, -1, 7, -7, maxWord, maxWord - 1, -maxWord, -maxWord + 1} {
			lists = append(lists, repeated(x, n))
			lists = append(lists, joined(repeated(3, n-1), x), joined([]int{x}, repeated(3, n-1)...))
		}
		for seed := range 5 {
			lists = append(lists, sampleWords(n, seed), sampleElements(20, n, seed))
		}
	}
	return lists
}

// noWords returns lists that are no lists of at most that many words.
func noWords(most int) [][]int {
	lists := [][]int{repeated(0, most+1), repeated(1, most+1), sampleWords(most+1, 1), repeated(2, 1000)}
	for _, x := range invalidWords() {
		lists = append(lists, []int{x}, []int{x, 0}, []int{0, x}, []int{1, x, 1},
			joined(repeated(0, most-1), x), joined([]int{x}, repeated(0, most-1)...), joined(repeated(0, most), x))
	}
	return lists
}

func invalidWords() []int {
	return []int{maxWord + 1, -maxWord - 1, 2 * maxWord, -2 * maxWord, 1 << 32, -1 << 32, 1<<62 + 1, math.MinInt, math.MaxInt}
}

func TestDigestLimits(t *testing.T) {
	if impl.MaxLabel != 65535 || impl.MaxWords != 12 {
		t.Error("limits", impl.MaxLabel, impl.MaxWords)
	}
}

// The digests were computed by another program.
func TestDigestValues(t *testing.T) {
	for _, c := range []struct {
		l    []int
		want int
	}{
		{nil, 61643}, {[]int{}, 61643}, {[]int{0}, 29726}, {[]int{1}, 31112}, {[]int{-1}, 4431}, {[]int{2}, 46057},
		{[]int{maxWord}, 48947}, {[]int{-maxWord}, 9107}, {[]int{maxWord - 1}, 52565}, {[]int{-maxWord + 1}, 18687},
		{[]int{4, 5}, 12953}, {[]int{5, 4}, 34910}, {[]int{0, 0}, 27029}, {[]int{1, 2, 3, 4}, 7225},
		{repeated(maxWord, 12), 10033}, {repeated(-maxWord, 12), 37749}, {repeated(0, 12), 63728}, {repeated(0, 11), 22068},
		{[]int{0, 1, 2, 3, 4, 5, 6, 7, 8, 9, 10, 11}, 12277},
	} {
		if n, ok := impl.DigestOf(c.l); !ok || n != c.want {
			t.Errorf("DigestOf(%v) = %d, %v, want %d", c.l, n, ok, c.want)
		}
	}
}

func TestDigestOf(t *testing.T) {
	for _, l := range wordLists(impl.MaxWords) {
		n, ok := impl.DigestOf(l)
		if !ok || n != digestByHand(l...) || n < 0 || n > impl.MaxLabel {
			t.Errorf("DigestOf(%v) = %d, %v, want %d", l, n, ok, digestByHand(l...))
		}
	}
	for x := -3000; x <= 3000; x++ {
		if n, ok := impl.DigestOf([]int{x}); !ok || n != digestByHand(x) {
			t.Errorf("DigestOf(%d) = %d, %v, want %d", x, n, ok, digestByHand(x))
		}
	}
	for _, l := range noWords(impl.MaxWords) {
		if n, ok := impl.DigestOf(l); ok || n != 0 {
			t.Errorf("DigestOf(%v) = %d, %v", l, n, ok)
		}
	}
}

func TestLabelsAreDigestsOfTheirParts(t *testing.T) {
	edges := []int{0, 1, -1, 5, maxWord, maxWord - 1, -maxWord, -maxWord + 1}
	for _, key := range edges {
		for _, tweak := range edges {
			for _, a := range edges {
				for _, b := range edges {
					n, ok := impl.LabelFor(key, tweak, a, b)
					digest, fine := impl.DigestOf([]int{key, tweak, a, b})
					if !ok || !fine || n != digest || n != digestByHand(key, tweak, a, b) {
						t.Fatalf("LabelFor(%d, %d, %d, %d) = %d, %v", key, tweak, a, b, n, ok)
					}
				}
			}
		}
	}
	for _, x := range invalidWords() {
		for i := range 4 {
			l := []int{1, 2, 3, 4}
			l[i] = x
			if n, ok := impl.LabelFor(l[0], l[1], l[2], l[3]); ok || n != 0 {
				t.Errorf("LabelFor(%v) = %d, %v", l, n, ok)
			}
		}
	}
}

func TestNumbersAreBelowTheirBounds(t *testing.T) {
	for _, l := range wordLists(impl.MaxWords - 2) {
		for _, n := range []int{1, 2, 3, 7, 64, 100, 4096, 9999, 10000} {
			checkNumber(t, l, n)
		}
	}
	for n := 1; n <= 10000; n++ {
		checkNumber(t, nil, n)
		checkNumber(t, []int{4, -5}, n)
	}
	for n, want := range map[int]int{1: 0, 2: 1, 10000: 3962} {
		if got, ok := impl.NumberFrom(nil, n); !ok || got != want {
			t.Errorf("NumberFrom(nil, %d) = %d, %v, want %d", n, got, ok, want)
		}
	}
}

func checkNumber(t *testing.T, l []int, n int) {
	t.Helper()
	got, ok := impl.NumberFrom(l, n)
	if !ok || got < 0 || got >= n || got != digestByHand(joined(l, n)...)%n {
		t.Fatalf("NumberFrom(%v, %d) = %d, %v", l, n, got, ok)
	}
}

func TestBitsFrom(t *testing.T) {
	for _, l := range wordLists(impl.MaxWords - 2) {
		want := make([]int, impl.MaxBits)
		for i := range want {
			want[i] = digestByHand(joined(l, i, 2)...) >> 3 & 1
		}
		for _, n := range []int{0, 1, 2, 9, impl.MaxBits - 1, impl.MaxBits} {
			if got, ok := impl.BitsFrom(l, n); !ok || !slices.Equal(got, want[:n]) {
				t.Fatalf("BitsFrom(%v, %d) = %v, %v, want %v", l, n, got, ok, want[:n])
			}
		}
	}
	if got, ok := impl.BitsFrom([]int{9}, 16); !ok || !slices.Equal(got, []int{1, 0, 1, 1, 0, 1, 0, 1, 1, 1, 1, 1, 1, 0, 1, 0}) {
		t.Error("BitsFrom 9", got, ok)
	}
}

func TestOrdersHaveAllNumbers(t *testing.T) {
	for _, l := range wordLists(impl.MaxWords - 2) {
		for n := range 41 {
			got, ok := impl.OrderFrom(l, n)
			if !ok || !slices.Equal(got, orderByHand(l, n)) {
				t.Fatalf("OrderFrom(%v, %d) = %v, %v", l, n, got, ok)
			}
			slices.Sort(got)
			for i, x := range got {
				if x != i {
					t.Fatalf("OrderFrom(%v, %d) has, in order, %v", l, n, got)
				}
			}
		}
	}
	if got, ok := impl.OrderFrom([]int{9}, 10); !ok || !slices.Equal(got, []int{3, 2, 4, 8, 7, 0, 9, 1, 5, 6}) {
		t.Error("OrderFrom 9", got, ok)
	}
}

func orderByHand(l []int, n int) []int {
	order := []int{}
	for i := range n {
		order = append(order, i)
	}
	for i := range order {
		last := n - 1 - i
		if last == 0 {
			break
		}
		other := digestByHand(joined(l, last, last+1)...) % (last + 1)
		kept := order[last]
		order[last] = order[other]
		order[other] = kept
	}
	return order
}

func TestStreamsUndoThemselves(t *testing.T) {
	for _, key := range wordLists(impl.MaxWords - 2) {
		for _, n := range []int{0, 1, 2, 31, impl.MaxBits - 1, impl.MaxBits} {
			for _, bits := range [][]int{repeated(0, n), repeated(1, n), sampleBits(n, n)} {
				hidden, ok := impl.StreamXor(key, bits)
				back, fine := impl.StreamXor(key, hidden)
				if !ok || !fine || !slices.Equal(back, bits) {
					t.Fatalf("StreamXor(%v, %v) = %v, %v, and back %v, %v", key, bits, hidden, ok, back, fine)
				}
				stream, _ := impl.BitsFrom(key, n)
				if want, _ := impl.XorBits(bits, stream); !slices.Equal(hidden, want) {
					t.Fatalf("StreamXor(%v, %v) = %v, want %v", key, bits, hidden, want)
				}
			}
		}
	}
}

func TestTextDigest(t *testing.T) {
	every := make([]byte, 256)
	for i := range every {
		every[i] = byte(i)
	}
	for s, want := range map[string]int{
		"": 11, "\x00": 2894, "a": 2991, "\xff": 3149, "\u00e4": 812572, strings.Repeat("a", 1000): 401373, "and 3 4": 929827,
		string(every): 580273,
	} {
		if n := impl.TextDigest(s); n != want {
			t.Errorf("TextDigest(%q) = %d, want %d", s, n, want)
		}
	}
	for _, s := range []string{"", "a", "text", "\xf0\x9f", strings.Repeat("\xff", 5000), strings.Repeat("long text ", 20000)} {
		for b := range 256 {
			n := impl.TextDigest(s + string([]byte{byte(b)}))
			if want := (263*impl.TextDigest(s) + b + 1) % 1000003; n != want {
				t.Fatalf("TextDigest of %d bytes and then %d is %d, want %d", len(s), b, n, want)
			}
		}
	}
}

func TestCountDigests(t *testing.T) {
	firsts := []int{-maxWord, -maxWord + 1, -30000, -26600, -200, -100, -1, 0, 1, 5, 77777, maxWord - 200, maxWord - 199}
	for _, first := range firsts {
		digests := map[int]bool{}
		for n := range 201 {
			if got, ok := impl.CountDigests(first, n); !ok || got != len(digests) {
				t.Fatalf("CountDigests(%d, %d) = %d, %v, want %d", first, n, got, ok, len(digests))
			}
			digests[digestByHand(first+n)] = true
		}
	}
	if n, ok := impl.CountDigests(-26600, 200); !ok || n != 197 {
		t.Error("CountDigests -26600", n, ok)
	}
}

func TestCountDigestsEdges(t *testing.T) {
	for _, c := range []struct {
		first, n, want int
		ok             bool
	}{
		{0, 0, 0, true}, {maxWord, 0, 0, true}, {-maxWord, 0, 0, true}, {maxWord, 1, 1, true}, {maxWord - 1, 2, 2, true},
		{maxWord - 199, 200, 199, true}, {-maxWord, 200, 200, true}, {-maxWord, 1, 1, true},
		{maxWord + 1, 0, 0, false}, {-maxWord - 1, 0, 0, false}, {maxWord, 2, 0, false}, {maxWord - 198, 200, 0, false},
		{-maxWord - 1, 1, 0, false}, {-maxWord - 1, 200, 0, false}, {maxWord + 1, 1, 0, false},
		{0, -1, 0, false}, {maxWord, -1, 0, false}, {0, 201, 0, false}, {5, math.MinInt, 0, false}, {5, math.MaxInt, 0, false},
		{math.MinInt, 0, 0, false}, {math.MaxInt, 0, 0, false}, {math.MaxInt, 200, 0, false}, {math.MinInt, 200, 0, false},
		{math.MaxInt, math.MaxInt, 0, false}, {math.MinInt, math.MinInt, 0, false},
	} {
		if got, ok := impl.CountDigests(c.first, c.n); ok != c.ok || got != c.want {
			t.Errorf("CountDigests(%d, %d) = %d, %v, want %d, %v", c.first, c.n, got, ok, c.want, c.ok)
		}
	}
}

// keyCalls are the functions that take a list of at most MaxWords - 2 words, by name, with the
// least and the greatest n. Each returns its list or, if it has no list, one with its number unless that is 0.
func keyCalls() map[string]keyCall {
	number := func(l []int, n int) ([]int, bool) {
		x, ok := impl.NumberFrom(l, n)
		if x == 0 {
			return nil, ok
		}
		return []int{x}, ok
	}
	stream := func(l []int, n int) ([]int, bool) {
		if n < 0 || n > 1000 {
			return nil, false
		}
		return impl.StreamXor(l, repeated(1, n))
	}
	return map[string]keyCall{
		"NumberFrom": {number, 1, 10000},
		"BitsFrom":   {impl.BitsFrom, 0, impl.MaxBits},
		"OrderFrom":  {impl.OrderFrom, 0, 40},
		"StreamXor":  {stream, 0, impl.MaxBits},
	}
}

type keyCall struct {
	call        func(l []int, n int) ([]int, bool)
	least, most int
}

func TestInvalidKeysAndNumbers(t *testing.T) {
	for name, c := range keyCalls() {
		for _, l := range noWords(impl.MaxWords - 2) {
			arg := spared(l)
			for _, n := range []int{c.least, c.least + 1, 8, c.most} {
				if got, ok := c.call(arg, n); ok || len(got) != 0 {
					t.Errorf("%s(%v, %d) = %v, %v", name, l, n, got, ok)
				}
			}
			checkKept(t, name, arg, l)
		}
		for _, l := range [][]int{nil, {1}, sampleWords(impl.MaxWords-2, 1)} {
			for _, n := range []int{c.least - 1, c.most + 1, -c.most, 2 * c.most, 1 << 32, 1<<32 + 1, math.MinInt, math.MaxInt} {
				if got, ok := c.call(l, n); ok || len(got) != 0 {
					t.Errorf("%s(%v, %d) = %v, %v", name, l, n, got, ok)
				}
			}
			for _, n := range []int{c.least, c.most} {
				if _, ok := c.call(l, n); !ok {
					t.Errorf("%s(%v, %d) fails", name, l, n)
				}
			}
		}
	}
}

func TestStreamXorOfNoBits(t *testing.T) {
	for _, bits := range noBits() {
		for _, key := range [][]int{nil, {9}, repeated(9, 10), repeated(9, 11)} {
			arg := spared(bits)
			if got, ok := impl.StreamXor(key, arg); ok || len(got) != 0 {
				t.Errorf("StreamXor(%v, %v) = %v, %v", key, bits, got, ok)
			}
			checkKept(t, "StreamXor", arg, bits)
		}
	}
}

func TestDigestsKeepTheirArguments(t *testing.T) {
	for name, c := range keyCalls() {
		for _, l := range wordLists(impl.MaxWords - 2) {
			arg := spared(l)
			n := min(c.most, 30)
			first, _ := c.call(arg, n)
			want := slices.Clone(first)
			checkKept(t, name, arg, l)
			checkNew(t, name, first, arg)
			if second, ok := c.call(arg, n); !ok || !slices.Equal(second, want) {
				t.Errorf("%s(%v, %d), again, = %v, %v, want %v", name, l, n, second, ok, want)
			}
		}
	}
	for _, l := range slices.Concat(wordLists(impl.MaxWords), noWords(impl.MaxWords)) {
		arg := spared(l)
		impl.DigestOf(arg)
		checkKept(t, "DigestOf", arg, l)
	}
	for n := 0; n <= impl.MaxBits; n++ {
		key, bits := sampleWords(5, n), sampleBits(n, n)
		a, b := spared(key), spared(bits)
		hidden, _ := impl.StreamXor(a, b)
		checkKept(t, "StreamXor", a, key)
		checkKept(t, "StreamXor", b, bits)
		checkNew(t, "StreamXor", hidden, a, b)
	}
}

func TestDigestExample(t *testing.T) {
	for _, l := range wordLists(impl.MaxWords - 2) {
		if n, ok := impl.NumberFrom(l, 1); n != 0 || !ok {
			t.Errorf("NumberFrom(%v, 1) = %d, %v", l, n, ok)
		}
	}
	if n := impl.TextDigest(""); n != 11 {
		t.Error("TextDigest", n)
	}
}
