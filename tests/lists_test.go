package tests

import (
	"slices"
	"strings"
	"testing"
)

const spareMark = 7

// spared returns a copy of l with marked memory behind its length, so that a
// function that reads or writes spare capacity is found out.
func spared(l []int) []int {
	whole := make([]int, len(l)+4)
	copy(whole, l)
	for i := len(l); i < len(whole); i++ {
		whole[i] = spareMark
	}
	return whole[:len(l)]
}

// checkKept fails if a list made by spared from want has changed, before or behind its length.
func checkKept(t *testing.T, call string, l []int, want []int) {
	t.Helper()
	if !slices.Equal(l, want) {
		t.Errorf("%s changed its argument %v to %v", call, want, l)
	}
	for _, x := range l[len(l):cap(l)] {
		if x != spareMark {
			t.Errorf("%s wrote behind its argument %v: %v", call, want, l[:cap(l)])
		}
	}
}

// checkNew fails if writing all memory of a result changes an argument made by spared.
func checkNew(t *testing.T, call string, result []int, args ...[]int) {
	t.Helper()
	before := make([][]int, len(args))
	for i, a := range args {
		before[i] = slices.Clone(a)
	}
	whole := result[:cap(result)]
	for i := range whole {
		whole[i] = -77
	}
	for i, a := range args {
		checkKept(t, "memory shared: "+call, a, before[i])
	}
}

// sampleBits returns n bits that follow no short rule, the same ones for the same seed.
func sampleBits(n int, seed int) []int {
	l := make([]int, n)
	state := uint64(seed)*2862933555777941757 + 3037000493
	for i := range l {
		state = state*6364136223846793005 + 1442695040888963407
		l[i] = int(state >> 63)
	}
	return l
}

// repeated returns n times the number x.
func repeated(x int, n int) []int {
	return slices.Repeat([]int{x}, n)
}

// eachNearText calls visit with the beginnings and ends of a text, and with what it is with a byte of
// bytes put in or put in the place of one, with one left out, and with a line left out or written twice.
func eachNearText(s string, bytes string, visit func(near string)) {
	for i := range len(s) + 1 {
		for _, b := range bytes {
			visit(s[:i] + string(b) + s[i:])
			if i < len(s) {
				visit(s[:i] + string(b) + s[i+1:])
			}
		}
		if i < len(s) {
			visit(s[:i] + s[i+1:])
			visit(s[:i])
			visit(s[i:])
		}
	}
	lines := strings.SplitAfter(s, "\n")
	for i := range lines {
		visit(strings.Join(slices.Delete(slices.Clone(lines), i, i+1), ""))
		visit(strings.Join(slices.Insert(slices.Clone(lines), i, lines[i]), ""))
	}
}
