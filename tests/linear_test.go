package tests

import (
	"slices"
	"testing"

	"loop.example/g00877/impl"
)

// sparedRows returns a copy of rows in which each row, and the list of them, has marked memory behind its length.
func sparedRows(rows [][]int) [][]int {
	whole := make([][]int, len(rows), len(rows)+2)
	for i, row := range rows {
		whole[i] = spared(row)
	}
	spare := whole[:cap(whole)]
	for i := len(rows); i < len(spare); i++ {
		spare[i] = []int{spareMark}
	}
	return whole
}

// checkKeptRows fails if rows made by sparedRows from want have changed.
func checkKeptRows(t *testing.T, call string, rows [][]int, want [][]int) {
	t.Helper()
	if len(rows) != len(want) {
		t.Errorf("%s changed the number of rows of %v to %d", call, want, len(rows))
		return
	}
	for i, row := range rows {
		checkKept(t, call, row, want[i])
	}
	for _, row := range rows[len(rows):cap(rows)] {
		if !slices.Equal(row, []int{spareMark}) {
			t.Errorf("%s wrote behind the rows %v", call, want)
		}
	}
}

// eachList calls visit with every list of n elements of the field of p.
func eachList(p int, n int, visit func(l []int)) {
	l := make([]int, n)
	for {
		visit(l)
		i := 0
		for i < n && l[i] == p-1 {
			l[i] = 0
			i++
		}
		if i == n {
			return
		}
		l[i]++
	}
}

func solves(p int, rows [][]int, right []int, l []int) bool {
	for i, row := range rows {
		sum := 0
		for j, a := range row {
			sum += a * l[j]
		}
		if sum%p != right[i] {
			return false
		}
	}
	return true
}

// rowsOf cuts a list into n rows of n elements.
func rowsOf(l []int, n int) [][]int {
	rows := make([][]int, n)
	for i := range rows {
		rows[i] = slices.Clone(l[i*n : (i+1)*n])
	}
	return rows
}

// checkSolve compares SolveLinear with a search through all lists of unknowns.
func checkSolve(t *testing.T, p int, rows [][]int, right []int) {
	t.Helper()
	var found []int
	count := 0
	eachList(p, len(rows), func(l []int) {
		if solves(p, rows, right, l) {
			found = slices.Clone(l)
			count++
		}
	})
	got, ok := impl.SolveLinear(p, rows, right)
	if count != 1 {
		found = nil
	}
	if ok != (count == 1) || !slices.Equal(got, found) {
		t.Fatalf("SolveLinear(%d, %v, %v) = %v, %v, want %v of %d", p, rows, right, got, ok, found, count)
	}
}

func TestAllSmallEquations(t *testing.T) {
	for _, c := range [][2]int{{2, 1}, {3, 1}, {7, 1}, {251, 1}, {2, 2}, {3, 2}, {5, 2}, {2, 3}} {
		p, n := c[0], c[1]
		eachList(p, n*n+n, func(l []int) { checkSolve(t, p, rowsOf(l, n), l[n*n:]) })
	}
}

func TestSampleEquations(t *testing.T) {
	for _, c := range [][2]int{{2, 4}, {2, 5}, {2, 6}, {3, 3}, {3, 4}, {3, 5}, {5, 3}, {7, 3}, {11, 2}, {31, 2}} {
		p, n := c[0], c[1]
		for seed := range 200 {
			rows := rowsOf(sampleElements(p, n*n, seed), n)
			checkSolve(t, p, rows, sampleElements(p, n, seed+1000))
			// With a row that depends on the others there is no solution or more than one.
			rows[n-1] = slices.Clone(rows[0])
			checkSolve(t, p, rows, sampleElements(p, n, seed+2000))
		}
	}
}

// Equations made of an upper and a lower triangle with no 0 in the corner have one solution.
func TestSolutionsSolveTheirEquations(t *testing.T) {
	for _, p := range primes {
		for n := 1; n <= 6; n++ {
			for seed := range 10 {
				rows := solvableRows(p, n, seed)
				want := sampleElements(p, n, seed+50)
				right := make([]int, n)
				for i, row := range rows {
					for j, a := range row {
						right[i] = (right[i] + a*want[j]) % p
					}
				}
				if got, ok := impl.SolveLinear(p, rows, right); !ok || !slices.Equal(got, want) {
					t.Fatalf("SolveLinear(%d, %v, %v) = %v, %v, want %v", p, rows, right, got, ok, want)
				}
			}
		}
	}
}

func solvableRows(p int, n int, seed int) [][]int {
	lower, upper := rowsOf(sampleElements(p, n*n, seed), n), rowsOf(sampleElements(p, n*n, seed+20), n)
	rows := rowsOf(repeated(0, n*n), n)
	for i := range n {
		lower[i][i], upper[i][i] = 1, max(upper[i][i], 1)
		for j := range n {
			for k := range min(i, j) + 1 {
				rows[i][j] = (rows[i][j] + lower[i][k]*upper[k][j]) % p
			}
		}
	}
	slices.Reverse(rows)
	return rows
}

func TestEquationsWithNotExactlyOneSolution(t *testing.T) {
	for _, p := range primes {
		for _, c := range []struct {
			rows  [][]int
			right []int
		}{
			{[][]int{{0}}, []int{0}}, {[][]int{{0}}, []int{1}},
			{[][]int{{1, 1}, {1, 1}}, []int{1, 1}}, {[][]int{{1, 1}, {1, 1}}, []int{0, 1}},
			{[][]int{{0, 1}, {0, 0}}, []int{1, 0}}, {[][]int{{0, 0}, {1, 0}}, []int{0, 1}}, {[][]int{{0, 0}, {1, 0}}, []int{1, 1}},
			{[][]int{{1, 0, 1}, {0, 1, 1}, {1, p - 1, 0}}, []int{0, 0, 0}}, {[][]int{{1, 0, 1}, {0, 1, 1}, {1, p - 1, 0}}, []int{0, 0, 1}},
			{rowsOf(repeated(0, 36), 6), repeated(0, 6)}, {rowsOf(repeated(1, 36), 6), repeated(1, 6)},
		} {
			checkSolveFails(t, p, c.rows, c.right)
		}
	}
}

func checkSolveFails(t *testing.T, p int, rows [][]int, right []int) {
	t.Helper()
	a, b := sparedRows(rows), spared(right)
	if l, ok := impl.SolveLinear(p, a, b); ok || len(l) != 0 {
		t.Errorf("SolveLinear(%d, %v, %v) = %v, %v", p, rows, right, l, ok)
	}
	checkKeptRows(t, "SolveLinear", a, rows)
	checkKept(t, "SolveLinear", b, right)
}

func TestInvalidEquations(t *testing.T) {
	unit := func(n int) [][]int {
		rows := rowsOf(repeated(0, n*n), n)
		for i := range rows {
			rows[i][i] = 1
		}
		return rows
	}
	for _, p := range []int{2, 7, 251} {
		checkSolveFails(t, p, nil, nil)
		checkSolveFails(t, p, nil, []int{1})
		checkSolveFails(t, p, [][]int{{}}, []int{0})
		checkSolveFails(t, p, [][]int{nil}, nil)
		checkSolveFails(t, p, unit(7), repeated(1, 7))
		checkSolveFails(t, p, unit(7)[:6], repeated(1, 6))
		checkSolveFails(t, p, unit(100), repeated(0, 100))
		for n := 1; n <= 6; n++ {
			checkSolveFails(t, p, unit(n), repeated(1, n-1))
			checkSolveFails(t, p, unit(n), repeated(1, n+1))
			checkSolveFails(t, p, unit(n)[1:], repeated(1, n-1))
			for i := range n {
				longer, shorter := unit(n), unit(n)
				longer[i] = append(longer[i], 0)
				shorter[i] = shorter[i][:n-1]
				checkSolveFails(t, p, longer, repeated(1, n))
				checkSolveFails(t, p, shorter, repeated(1, n))
			}
			for _, a := range noElements(p) {
				rows, right := unit(n), repeated(1, n)
				right[n-1] = a
				checkSolveFails(t, p, rows, right)
				rows[n-1][0] = a
				checkSolveFails(t, p, rows, repeated(1, n))
				rows = unit(n)
				rows[0][n-1] = a
				checkSolveFails(t, p, rows, repeated(1, n))
			}
		}
	}
	for _, p := range noFields() {
		checkSolveFails(t, p, [][]int{{1}}, []int{0})
		checkSolveFails(t, p, unit(6), repeated(0, 6))
	}
}

func TestSolveLinearKeepsItsArguments(t *testing.T) {
	for _, p := range primes {
		for n := 1; n <= 6; n++ {
			rows, right := solvableRows(p, n, n), sampleElements(p, n, n)
			a, b := sparedRows(rows), spared(right)
			got, ok := impl.SolveLinear(p, a, b)
			if !ok || !solves(p, rows, right, got) {
				t.Errorf("SolveLinear(%d, %v, %v) = %v, %v", p, rows, right, got, ok)
			}
			checkKeptRows(t, "SolveLinear", a, rows)
			checkKept(t, "SolveLinear", b, right)
			checkNew(t, "SolveLinear", got, append(a, b)...)
		}
	}
}

// Rows that share their memory with each other and with the right sides are arguments like any others.
func TestSolveLinearOfSharedMemory(t *testing.T) {
	l := []int{1, 2, 3, 4}
	rows := [][]int{l[0:2], l[1:3]}
	got, ok := impl.SolveLinear(7, rows, l[2:4])
	if !ok || !solves(7, rows, l[2:4], got) || !slices.Equal(l, []int{1, 2, 3, 4}) {
		t.Errorf("SolveLinear(7, %v, %v) = %v, %v", rows, l[2:4], got, ok)
	}
}
