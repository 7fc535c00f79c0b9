package tests

import (
	"math"
	"math/bits"
	"math/rand/v2"
	"slices"
	"testing"

	"loop.example/g00990/impl"
)

// zeros returns a matrix with this many rows and columns.
func zeros(rows, columns int) [][]int {
	a := make([][]int, rows)
	for i := range a {
		a[i] = make([]int, columns)
	}
	return a
}

// diagonal returns the matrix that has these entries in its diagonal and no others.
func diagonal(entries ...int) [][]int {
	a := zeros(len(entries), len(entries))
	for i, entry := range entries {
		a[i][i] = entry
	}
	return a
}

// alike returns n times the same number.
func alike(n, number int) []int {
	return slices.Repeat([]int{number}, n)
}

func copyOf(a [][]int) [][]int {
	var rows [][]int
	for _, row := range a {
		rows = append(rows, slices.Clone(row))
	}
	return rows
}

func sameRows(a, b [][]int) bool {
	return slices.EqualFunc(a, b, slices.Equal[[]int])
}

// exchanged returns a copy in which two rows are exchanged.
func exchanged(a [][]int, i, j int) [][]int {
	rows := copyOf(a)
	rows[i], rows[j] = rows[j], rows[i]
	return rows
}

// upsideDown returns a copy with the rows in the opposite order.
func upsideDown(a [][]int) [][]int {
	rows := copyOf(a)
	slices.Reverse(rows)
	return rows
}

// turnedDown returns a copy in which the first row is the last one.
func turnedDown(a [][]int) [][]int {
	rows := copyOf(a)
	return append(rows[1:], rows[0])
}

// onesOnly returns a matrix of n rows of ones and minus ones. With 2, 4, 8 or 16 rows, any two of them differ in half of their places, so that no other matrix of ones and minus ones has a greater determinant.
func onesOnly(n int) [][]int {
	a := zeros(n, n)
	for i := range n {
		for k := range n {
			a[i][k] = 1 - 2*(bits.OnesCount(uint(i&k))%2)
		}
	}
	return a
}

// detCase is a matrix and its determinant.
type detCase struct {
	name string
	a    [][]int
	want int
}

func smallDetCases() []detCase {
	return []detCase{
		{"nil", nil, 1},
		{"no rows", [][]int{}, 1},
		{"one row of 0", [][]int{{0}}, 0},
		{"one row of 1", [][]int{{1}}, 1},
		{"one row of -1", [][]int{{-1}}, -1},
		{"one row of 16", [][]int{{16}}, 16},
		{"one row of -16", [][]int{{-16}}, -16},
		{"two rows", [][]int{{2, 1}, {1, 2}}, 3},
		{"two rows that were exchanged", [][]int{{1, 2}, {2, 1}}, -3},
		{"two rows, not symmetric", [][]int{{3, 5}, {-7, 4}}, 47},
		{"the diagonal alone", [][]int{{3, 0}, {0, -4}}, -12},
		{"the other diagonal alone", [][]int{{0, 3}, {-4, 0}}, 12},
		{"two equal rows", [][]int{{3, -5}, {3, -5}}, 0},
		{"two opposite rows", [][]int{{3, -5}, {-3, 5}}, 0},
		{"a row that is twice the other one", [][]int{{-4, 8}, {-2, 4}}, 0},
		{"two equal columns", [][]int{{3, 3}, {-5, -5}}, 0},
		{"first a row of zeros", [][]int{{0, 0}, {3, 4}}, 0},
		{"last a row of zeros", [][]int{{3, 4}, {0, 0}}, 0},
		{"first a column of zeros", [][]int{{0, 3}, {0, 4}}, 0},
		{"last a column of zeros", [][]int{{3, 0}, {4, 0}}, 0},
		{"zero first in the diagonal", [][]int{{0, 2}, {3, 5}}, -6},
		{"zero last in the diagonal", [][]int{{2, 3}, {5, 0}}, -15},
		{"rows with the sum 16", [][]int{{8, 8}, {8, -8}}, -128},
		{"rows with the sum 16 and negative entries", [][]int{{-9, -7}, {7, -9}}, 130},
		{"entries of 16 and -16", [][]int{{0, 16}, {-16, 0}}, 256},
		{"three rows", [][]int{{2, -1, 0}, {-1, 2, -1}, {0, -1, 2}}, 4},
		{"three rows that do not divide one another", [][]int{{2, 3, 5}, {3, 7, 4}, {5, 2, 8}}, -61},
		{"three rows, of which the first is the sum of the others", [][]int{{5, 7, 3}, {2, 3, 1}, {3, 4, 2}}, 0},
		{"three rows and zeros in the diagonal", [][]int{{0, 2, 3}, {4, 0, 5}, {6, 7, 0}}, 144},
		{"three rows and two exchanges", [][]int{{0, 2, 0}, {0, 0, 3}, {5, 0, 0}}, 30},
		{"three rows and two exchanges the other way", [][]int{{0, 0, 2}, {3, 0, 0}, {0, 5, 0}}, 30},
		{"three rows and one exchange", [][]int{{0, 0, 2}, {0, 3, 0}, {5, 0, 0}}, -30},
		{"three rows and an exchange of the first", [][]int{{0, 2, 0}, {3, 0, 0}, {0, 0, 5}}, -30},
		{"three rows and an exchange of the last", [][]int{{2, 0, 0}, {0, 0, 3}, {0, 5, 0}}, -30},
		{"an exchange after the first row", [][]int{{1, 2, 3}, {2, 4, 1}, {3, 1, 2}}, -25},
		{"equal first and last rows", [][]int{{1, 2, 3}, {4, 5, 6}, {1, 2, 3}}, 0},
		{"above the diagonal alone", [][]int{{2, 5, -3}, {0, -3, 7}, {0, 0, 4}}, -24},
		{"below the diagonal alone", [][]int{{2, 0, 0}, {5, -3, 0}, {-3, 7, 4}}, -24},
		{"four rows of ones and minus ones", [][]int{{1, 1, 1, 1}, {1, -1, 1, -1}, {1, 1, -1, -1}, {1, -1, -1, 1}}, 16},
		{"four rows with all ones off the diagonal", [][]int{{0, 1, 1, 1}, {1, 0, 1, 1}, {1, 1, 0, 1}, {1, 1, 1, 0}}, -3},
		{"four rows, turned by one place", [][]int{{0, 2, 0, 0}, {0, 0, 3, 0}, {0, 0, 0, 5}, {7, 0, 0, 0}}, -210},
		{"four rows, turned by two places", [][]int{{0, 0, 2, 0}, {0, 0, 0, 3}, {5, 0, 0, 0}, {0, 7, 0, 0}}, 210},
		{"the maze of one cell", impl.LaplaceOf(impl.Maze{Grid: impl.Grid{Wide: 1, High: 1}}), 0},
	}
}

// largeDetCases has determinants that wrap around: 16 to the power of 16 is 0, and half of it the least integer.
func largeDetCases() []detCase {
	sixteen, fifteen := alike(16, 16), alike(15, 16)
	return []detCase{
		{"eight rows of ones and minus ones", onesOnly(8), 4096},
		{"sixteen rows of ones and minus ones", onesOnly(16), 1 << 32},
		{"sixteen rows of ones and minus ones, two exchanged", exchanged(onesOnly(16), 3, 12), -1 << 32},
		{"sixteen rows of ones", slices.Repeat([][]int{alike(16, 1)}, 16), 0},
		{"sixteen rows of zeros", zeros(16, 16), 0},
		{"sixteen rows with ones in the diagonal", diagonal(alike(16, 1)...), 1},
		{"sixteen rows with minus ones in the diagonal", diagonal(alike(16, -1)...), 1},
		{"fifteen rows with minus ones in the diagonal", diagonal(alike(15, -1)...), -1},
		{"sixteen rows upside down", upsideDown(diagonal(alike(16, 1)...)), 1},
		{"fifteen rows upside down", upsideDown(diagonal(alike(15, 1)...)), -1},
		{"fourteen rows upside down", upsideDown(diagonal(alike(14, 1)...)), -1},
		{"sixteen rows turned by one place", turnedDown(diagonal(alike(16, 1)...)), -1},
		{"fifteen rows turned by one place", turnedDown(diagonal(alike(15, 1)...)), 1},
		{"fifteen rows of 16", diagonal(fifteen...), 1 << 60},
		{"fifteen rows of -16", diagonal(alike(15, -16)...), -1 << 60},
		{"fifteen rows of 16 upside down", upsideDown(diagonal(fifteen...)), -1 << 60},
		{"sixteen rows of 16", diagonal(sixteen...), 0},
		{"sixteen rows of -16", diagonal(alike(16, -16)...), 0},
		{"sixteen rows of 16 upside down", upsideDown(diagonal(sixteen...)), 0},
		{"sixteen rows of 16 turned by one place", turnedDown(diagonal(sixteen...)), 0},
		{"fifteen rows of 16 and one of 1", diagonal(append(fifteen, 1)...), 1 << 60},
		{"fifteen rows of 16 and one of -1", diagonal(append(fifteen, -1)...), -1 << 60},
		{"fifteen rows of 16 and one of 7", diagonal(append(fifteen, 7)...), 7 << 60},
		{"fifteen rows of 16 and one of 8", diagonal(append(fifteen, 8)...), math.MinInt},
		{"fifteen rows of 16 and one of -8", diagonal(append(fifteen, -8)...), math.MinInt},
		{"fifteen rows of 16 and one of 8, turned", turnedDown(diagonal(append(fifteen, 8)...)), math.MinInt},
		{"fifteen rows of 16 and one of 9", diagonal(append(fifteen, 9)...), -7 << 60},
		{"fifteen rows of 16 and one of 9, turned", turnedDown(diagonal(append(fifteen, 9)...)), 7 << 60},
		{"fifteen rows of 16 and one of 15", diagonal(append(fifteen, 15)...), -1 << 60},
		{"sixteen rows of 15", diagonal(alike(16, 15)...), 6568408355712890625},
		{"sixteen rows of 15 turned by one place", turnedDown(diagonal(alike(16, 15)...)), -6568408355712890625},
	}
}

func TestDeterminant(t *testing.T) {
	for _, c := range append(smallDetCases(), largeDetCases()...) {
		t.Run(c.name, func(t *testing.T) {
			if !impl.SquareOk(c.a) {
				t.Errorf("SquareOk(%v) = false, want true", c.a)
			}
			if got := impl.Determinant(c.a); got != c.want {
				t.Errorf("Determinant(%v) = %d, want %d", c.a, got, c.want)
			}
			if got := drawnDeterminant(c.a); got != c.want {
				t.Errorf("expanded, the determinant of %v is %d, want %d", c.a, got, c.want)
			}
		})
	}
}

// orderSum adds up the products of entries in rows and columns of their own, given the columns of the first rows. A column left of k earlier ones changes the sign k times.
func orderSum(a [][]int, columns []int) int {
	if len(columns) == len(a) {
		return 1
	}
	sum := 0
	for column, entry := range a[len(columns)] {
		if slices.Contains(columns, column) {
			continue
		}
		product := entry * orderSum(a, append(slices.Clone(columns), column))
		for _, earlier := range columns {
			if earlier > column {
				product = -product
			}
		}
		sum += product
	}
	return sum
}

// drawnDeterminant finds, for each set of columns, the determinant of the first rows in these columns, by expanding it along its last row. Only sums and products are formed, so that it wraps around like the integers.
func drawnDeterminant(a [][]int) int {
	minors := make([]int, 1<<len(a))
	minors[0] = 1
	for set := 1; set < len(minors); set++ {
		row := a[bits.OnesCount(uint(set))-1]
		sign := 1
		// The last column of the last row has the sign of the diagonal.
		for column := len(a) - 1; column >= 0; column-- {
			if set>>column&1 == 0 {
				continue
			}
			minors[set] += sign * row[column] * minors[set&^(1<<column)]
			sign = -sign
		}
	}
	return minors[len(minors)-1]
}

// randomRow returns a row in which the sum of the absolute values is at most 16, and often just 16.
func randomRow(r *rand.Rand, n int) []int {
	row := make([]int, n)
	for left := 16; left > 0; {
		amount := 1 + r.IntN(left)
		left -= amount
		row[r.IntN(n)] += amount * (1 - 2*r.IntN(2))
	}
	return row
}

// manyMatrices holds valid matrices of n rows: with entries of all sizes, with single steps to 16, with one large entry in each row, with zeros in the diagonal, with two equal rows, with a row of zeros, and with rows like those of a maze without one of its rows.
func manyMatrices(n int) [][][]int {
	r := rand.New(rand.NewPCG(11, uint64(n)))
	var list [][][]int
	for range 6 {
		mixed, steps, single, hollow, equal, empty, maze := zeros(n, n), zeros(n, n), zeros(n, n), zeros(n, n), zeros(n, n), zeros(n, n), zeros(n, n)
		places := r.Perm(n)
		for i := range n {
			mixed[i], equal[i], empty[i] = randomRow(r, n), randomRow(r, n), randomRow(r, n)
			for range 16 {
				steps[i][r.IntN(n)] += 1 - 2*r.IntN(2)
			}
			single[i][places[i]] = (9 + r.IntN(8)) * (1 - 2*r.IntN(2))
			hollow[i] = randomRow(r, n)
			hollow[i][i] = 0
			for range r.IntN(9) {
				maze[i][i]++
				// The passage may also lead to the row that is left out.
				if column := r.IntN(n + 1); column < n {
					maze[i][column]--
				}
			}
		}
		row := r.IntN(n)
		copy(equal[row], equal[(row+1)%n])
		clear(empty[row])
		list = append(list, mixed, steps, single, hollow, equal, empty, maze)
	}
	return append(list, onesOnly(n), diagonal(alike(n, 16)...), upsideDown(diagonal(alike(n, -15)...)))
}

func TestDeterminantAsExpanded(t *testing.T) {
	for n := 1; n <= 16; n++ {
		for _, a := range manyMatrices(n) {
			want := drawnDeterminant(a)
			if got := impl.Determinant(a); got != want {
				t.Errorf("Determinant(%v) = %d, want %d", a, got, want)
			}
			if n <= 6 && orderSum(a, nil) != want {
				t.Errorf("over all orders of columns, the determinant of %v is %d, want %d", a, orderSum(a, nil), want)
			}
		}
	}
}

// everyMatrix calls check for each matrix of n rows with entries from -most to most.
func everyMatrix(n, most int, check func(a [][]int)) {
	a := zeros(n, n)
	var fill func(place int)
	fill = func(place int) {
		if place == n*n {
			check(a)
			return
		}
		for entry := -most; entry <= most; entry++ {
			a[place/n][place%n] = entry
			fill(place + 1)
		}
	}
	fill(0)
}

func TestDeterminantOfEverySmallMatrix(t *testing.T) {
	check := func(a [][]int) {
		if got, want := impl.Determinant(a), orderSum(a, nil); got != want {
			t.Errorf("Determinant(%v) = %d, want %d", a, got, want)
		}
	}
	everyMatrix(1, 16, check)
	everyMatrix(2, 8, check)
	everyMatrix(3, 1, check)
}

// checkExchanges expects for every two rows of a matrix that exchanging them changes the sign of its determinant.
func checkExchanges(t *testing.T, a [][]int) {
	t.Helper()
	before := impl.Determinant(a)
	for j := range a {
		for i := range j {
			b := exchanged(a, i, j)
			if !impl.SquareOk(b) {
				t.Errorf("SquareOk(%v) = false, want true", b)
			}
			if got := impl.Determinant(b); got != -before {
				t.Errorf("Determinant(%v) = %d, but after the exchange of the rows %d and %d it is %d", a, before, i, j, got)
			}
		}
	}
}

// TestExchangesChangeTheSign is promise 11, for matrices of each size and every two of their rows. Most of them have a determinant that is not its own negative, as 0 and the least integer are.
func TestExchangesChangeTheSign(t *testing.T) {
	check := func(a [][]int) { checkExchanges(t, a) }
	everyMatrix(2, 4, check)
	everyMatrix(3, 1, check)
	for n := 2; n <= 16; n++ {
		signed := 0
		for _, a := range manyMatrices(n) {
			check(a)
			if before := impl.Determinant(a); before != -before {
				signed++
			}
		}
		if signed < 12 {
			t.Errorf("only %d matrices of %d rows have a determinant that is not its own negative", signed, n)
		}
	}
	for _, c := range append(smallDetCases(), largeDetCases()...) {
		check(c.a)
	}
}

// TestExchangesInMinors: promise 11 also holds for the matrices of mazes without a row.
func TestExchangesInMinors(t *testing.T) {
	for _, g := range allGrids() {
		for _, m := range []impl.Maze{impl.FullMaze(g), drawnKruskal(g, shuffledOrder(g, 3)), {Grid: g}} {
			a := impl.LaplaceOf(m)
			checkExchanges(t, a)
			for k := range a {
				checkExchanges(t, impl.WithoutRow(a, k))
			}
		}
	}
}

// TestDeterminantOfChangedRows: where rows become columns, the determinant stays; where a row is turned to its opposite, its sign changes; where two rows become equal, it is 0.
func TestDeterminantOfChangedRows(t *testing.T) {
	for n := 1; n <= 16; n++ {
		for _, a := range manyMatrices(n) {
			before := impl.Determinant(a)
			turned := zeros(n, n)
			for i := range n {
				for j := range n {
					turned[j][i] = a[i][j]
				}
			}
			if got := impl.Determinant(turned); impl.SquareOk(turned) && got != before {
				t.Errorf("Determinant(%v) = %d, but with rows as columns it is %d", a, before, got)
			}
			for i := range n {
				opposite := copyOf(a)
				for j := range n {
					opposite[i][j] = -a[i][j]
				}
				if got := impl.Determinant(opposite); got != -before {
					t.Errorf("Determinant(%v) = %d, but with the opposite of row %d it is %d", a, before, i, got)
				}
				equal := copyOf(a)
				equal[i] = slices.Clone(a[(i+1)%n])
				if got := impl.Determinant(equal); n > 1 && got != 0 {
					t.Errorf("Determinant(%v) = %d, want 0 for two equal rows", equal, got)
				}
			}
		}
	}
}

// checkNotSquare expects that a matrix is not valid, has no determinant and nothing without a row.
func checkNotSquare(t *testing.T, a [][]int) {
	t.Helper()
	if impl.SquareOk(a) {
		t.Errorf("SquareOk(%v) = true, want false", a)
	}
	if got := impl.Determinant(a); got != 0 {
		t.Errorf("Determinant(%v) = %d, want 0", a, got)
	}
	for k := -1; k <= len(a); k++ {
		if got := impl.WithoutRow(a, k); len(got) != 0 {
			t.Errorf("WithoutRow(%v, %d) = %v, want nil", a, k, got)
		}
	}
}

func TestMatrixLimits(t *testing.T) {
	if impl.MaxRows != 16 {
		t.Errorf("MaxRows = %d, want 16", impl.MaxRows)
	}
	for n := range 17 {
		if a := diagonal(alike(n, 1)...); !impl.SquareOk(a) || impl.Determinant(a) != 1 {
			t.Errorf("SquareOk(%v) = %v, Determinant = %d, want true and 1", a, impl.SquareOk(a), impl.Determinant(a))
		}
	}
	for _, n := range []int{17, 18, 32, 33, 64, 100, 256, 300} {
		checkNotSquare(t, diagonal(alike(n, 1)...))
		checkNotSquare(t, zeros(n, n))
		checkNotSquare(t, zeros(n, 16))
		checkNotSquare(t, make([][]int, n))
	}
}

// TestRowOfWrongLength gives each row of a matrix one entry less, one more, or none.
func TestRowOfWrongLength(t *testing.T) {
	for n := 1; n <= 16; n++ {
		for i := range n {
			for _, row := range [][]int{nil, {}, alike(n-1, 0), alike(n+1, 0), alike(2*n, 0), alike(17, 0)} {
				a := diagonal(alike(n, 1)...)
				a[i] = row
				checkNotSquare(t, a)
			}
		}
		// Here the rows are all as long as one another, but not as many.
		checkNotSquare(t, zeros(n, n-1))
		checkNotSquare(t, zeros(n, n+1))
		checkNotSquare(t, make([][]int, n))
	}
}

// TestEntriesAtTheLimit puts entries of -16, 0 and 16, and such out of range, in each place.
func TestEntriesAtTheLimit(t *testing.T) {
	for n := 1; n <= 16; n++ {
		for place := range n * n {
			a := diagonal(alike(n, 1)...)
			clear(a[place/n])
			for _, entry := range []int{-16, -15, 0, 15, 16} {
				a[place/n][place%n] = entry
				want := 0
				if place/n == place%n {
					want = entry
				}
				if got := impl.Determinant(a); !impl.SquareOk(a) || got != want {
					t.Errorf("SquareOk(%v) = %v, Determinant = %d, want true and %d", a, impl.SquareOk(a), got, want)
				}
			}
			for _, entry := range append([]int{-17, 17, -18, 18, -255, 256, 1<<32 - 16, 1 << 63 / 2}, extremeInts...) {
				a[place/n][place%n] = entry
				checkNotSquare(t, a)
			}
		}
	}
}

func TestRowSums(t *testing.T) {
	ones := alike(16, 1)
	cases := []struct {
		name string
		row  []int
		want bool
	}{
		{"one entry", []int{16}, true},
		{"zeros", []int{0, 0}, true},
		{"the sum 15", []int{9, 6}, true},
		{"the sum 16", []int{9, 7}, true},
		{"the sum 16 of negative entries", []int{-9, -7}, true},
		{"the sum 16 of both signs", []int{9, -7}, true},
		{"the sum 16 of three entries", []int{-5, 5, -6}, true},
		{"the sum 16 of sixteen entries", ones, true},
		{"the sum 17", []int{9, 8}, false},
		{"the sum 17 of negative entries", []int{-9, -8}, false},
		{"the sum 17 of both signs", []int{-8, 9}, false},
		{"the sum 17 with an entry of 16", []int{16, 1}, false},
		{"the sum 17 with an entry of 16 at last", []int{-1, 16}, false},
		{"the sum 17 with an entry of -16", []int{-16, 1}, false},
		{"the sum 17 in the last entry", []int{5, 5, 6, 0, 1}, false},
		{"the sum 17 in the last entry, which is negative", []int{5, 5, 6, 0, -1}, false},
		{"the sum 17 of sixteen entries", append(slices.Clone(ones[:15]), -2), false},
		{"entries that balance", []int{16, -16}, false},
		{"sixteen entries of 16", alike(16, 16), false},
		{"integers whose sum wraps around to 0", []int{math.MinInt, math.MinInt}, false},
		{"integers whose sum wraps around to -2", []int{math.MaxInt, math.MaxInt}, false},
		{"one and an integer whose sum wraps around", []int{1, math.MaxInt}, false},
		{"an integer and one whose sum wraps around", []int{math.MaxInt, 1}, false},
		{"negative integers whose sum wraps around", []int{-1, math.MinInt + 1}, false},
		{"16 and an integer whose sum wraps around", []int{0, 16, math.MaxInt}, false},
		{"the least integer, which is its own negative", []int{math.MinInt, 0}, false},
		{"one and the least integer", []int{1, math.MinInt}, false},
		{"four quarters of all integers", alike(4, 1<<62), false},
	}
	for _, c := range cases {
		t.Run(c.name, func(t *testing.T) {
			for i := range c.row {
				a := diagonal(alike(len(c.row), 1)...)
				a[i] = c.row
				if got := impl.SquareOk(a); got != c.want {
					t.Errorf("SquareOk(%v) = %v, want %v", a, got, c.want)
				}
				if c.want {
					if got := impl.Determinant(a); got != c.row[i] {
						t.Errorf("Determinant(%v) = %d, want %d", a, got, c.row[i])
					}
				} else {
					checkNotSquare(t, a)
				}
			}
		})
	}
}

// laplaceCase is a maze, its matrix and the number of perfect mazes in it.
type laplaceCase struct {
	name  string
	m     impl.Maze
	want  [][]int
	trees int
}

func laplaceCases() []laplaceCase {
	pair, small := impl.Grid{Wide: 2, High: 1}, impl.Grid{Wide: 2, High: 2}
	return []laplaceCase{
		{"one cell", impl.Maze{Grid: impl.Grid{Wide: 1, High: 1}}, [][]int{{0}}, 1},
		{"two cells and a wall", impl.Maze{Grid: pair}, [][]int{{0, 0}, {0, 0}}, 0},
		{"two cells and a passage", impl.FullMaze(pair), [][]int{{1, -1}, {-1, 1}}, 1},
		{"two cells one above the other", impl.FullMaze(impl.Grid{Wide: 1, High: 2}), [][]int{{1, -1}, {-1, 1}}, 1},
		{"a row", impl.FullMaze(impl.Grid{Wide: 4, High: 1}), [][]int{{1, -1, 0, 0}, {-1, 2, -1, 0}, {0, -1, 2, -1}, {0, 0, -1, 1}}, 1},
		{"a row in two halves", impl.Maze{Grid: impl.Grid{Wide: 4, High: 1}, Open: 5}, [][]int{{1, -1, 0, 0}, {-1, 1, 0, 0}, {0, 0, 1, -1}, {0, 0, -1, 1}}, 0},
		{"around a wall", impl.Maze{Grid: small, Open: 13}, [][]int{{2, -1, -1, 0}, {-1, 2, 0, -1}, {-1, 0, 1, 0}, {0, -1, 0, 1}}, 1},
		{"four cells without passages", impl.Maze{Grid: small}, zeros(4, 4), 0},
		{"all gaps of four cells open", impl.FullMaze(small), [][]int{{2, -1, -1, 0}, {-1, 2, 0, -1}, {-1, 0, 2, -1}, {0, -1, -1, 2}}, 4},
		{"all gaps of six cells open", impl.FullMaze(impl.Grid{Wide: 3, High: 2}), [][]int{
			{2, -1, 0, -1, 0, 0},
			{-1, 3, -1, 0, -1, 0},
			{0, -1, 2, 0, 0, -1},
			{-1, 0, 0, 2, -1, 0},
			{0, -1, 0, -1, 3, -1},
			{0, 0, -1, 0, -1, 2},
		}, 15},
		{"six cells in two columns", impl.FullMaze(impl.Grid{Wide: 2, High: 3}), [][]int{
			{2, -1, -1, 0, 0, 0},
			{-1, 2, 0, -1, 0, 0},
			{-1, 0, 3, -1, -1, 0},
			{0, -1, -1, 3, 0, -1},
			{0, 0, -1, 0, 2, -1},
			{0, 0, 0, -1, -1, 2},
		}, 15},
		{"a cross", crossMaze(), [][]int{
			{0, 0, 0, 0, 0, 0, 0, 0, 0},
			{0, 1, 0, 0, -1, 0, 0, 0, 0},
			{0, 0, 0, 0, 0, 0, 0, 0, 0},
			{0, 0, 0, 1, -1, 0, 0, 0, 0},
			{0, -1, 0, -1, 4, -1, 0, -1, 0},
			{0, 0, 0, 0, -1, 1, 0, 0, 0},
			{0, 0, 0, 0, 0, 0, 0, 0, 0},
			{0, 0, 0, 0, -1, 0, 0, 1, 0},
			{0, 0, 0, 0, 0, 0, 0, 0, 0},
		}, 0},
		{"the largest grid without passages", impl.Maze{Grid: impl.Grid{Wide: 4, High: 4}}, zeros(16, 16), 0},
		{"all gaps of the largest grid open", impl.FullMaze(impl.Grid{Wide: 4, High: 4}), [][]int{
			{2, -1, 0, 0, -1, 0, 0, 0, 0, 0, 0, 0, 0, 0, 0, 0},
			{-1, 3, -1, 0, 0, -1, 0, 0, 0, 0, 0, 0, 0, 0, 0, 0},
			{0, -1, 3, -1, 0, 0, -1, 0, 0, 0, 0, 0, 0, 0, 0, 0},
			{0, 0, -1, 2, 0, 0, 0, -1, 0, 0, 0, 0, 0, 0, 0, 0},
			{-1, 0, 0, 0, 3, -1, 0, 0, -1, 0, 0, 0, 0, 0, 0, 0},
			{0, -1, 0, 0, -1, 4, -1, 0, 0, -1, 0, 0, 0, 0, 0, 0},
			{0, 0, -1, 0, 0, -1, 4, -1, 0, 0, -1, 0, 0, 0, 0, 0},
			{0, 0, 0, -1, 0, 0, -1, 3, 0, 0, 0, -1, 0, 0, 0, 0},
			{0, 0, 0, 0, -1, 0, 0, 0, 3, -1, 0, 0, -1, 0, 0, 0},
			{0, 0, 0, 0, 0, -1, 0, 0, -1, 4, -1, 0, 0, -1, 0, 0},
			{0, 0, 0, 0, 0, 0, -1, 0, 0, -1, 4, -1, 0, 0, -1, 0},
			{0, 0, 0, 0, 0, 0, 0, -1, 0, 0, -1, 3, 0, 0, 0, -1},
			{0, 0, 0, 0, 0, 0, 0, 0, -1, 0, 0, 0, 2, -1, 0, 0},
			{0, 0, 0, 0, 0, 0, 0, 0, 0, -1, 0, 0, -1, 3, -1, 0},
			{0, 0, 0, 0, 0, 0, 0, 0, 0, 0, -1, 0, 0, -1, 3, -1},
			{0, 0, 0, 0, 0, 0, 0, 0, 0, 0, 0, -1, 0, 0, -1, 2},
		}, 100352},
	}
}

// checkLaplace expects a matrix of a maze, and that its determinant is 0, but without any row the number of perfect mazes in the maze.
func checkLaplace(t *testing.T, c laplaceCase) {
	t.Helper()
	a := impl.LaplaceOf(c.m)
	if !sameRows(a, c.want) {
		t.Fatalf("LaplaceOf(%v) = %v, want %v", c.m, a, c.want)
	}
	if got := impl.Determinant(a); got != 0 || !impl.SquareOk(a) {
		t.Errorf("Determinant(%v) = %d, want 0", a, got)
	}
	for k := range a {
		if got := impl.Determinant(impl.WithoutRow(a, k)); got != c.trees {
			t.Errorf("%v: without row %d, the determinant is %d, want %d", c.m, k, got, c.trees)
		}
	}
}

func TestLaplaceCases(t *testing.T) {
	for _, c := range laplaceCases() {
		t.Run(c.name, func(t *testing.T) {
			checkLaplace(t, c)
		})
	}
}

// drawnLaplace lets each passage add its part to the matrix.
func drawnLaplace(m impl.Maze) [][]int {
	cells := m.Grid.Wide * m.Grid.High
	a := zeros(cells, cells)
	for gap, ends := range gapsInOrder(m.Grid) {
		if isDrawnOpen(m, gap) {
			a[ends.first][ends.first]++
			a[ends.second][ends.second]++
			a[ends.first][ends.second]--
			a[ends.second][ends.first]--
		}
	}
	return a
}

func TestLaplaceAsDrawn(t *testing.T) {
	for _, g := range allGrids() {
		for _, m := range append(someMazes(g), almostPerfectMazes(g)...) {
			got, want := impl.LaplaceOf(m), drawnLaplace(m)
			if !sameRows(got, want) {
				t.Errorf("LaplaceOf(%v) = %v, want %v", m, got, want)
			}
			if !impl.SquareOk(got) || impl.Determinant(got) != 0 {
				t.Errorf("SquareOk(%v) = %v, Determinant = %d, want true and 0", got, impl.SquareOk(got), impl.Determinant(got))
			}
		}
	}
}

// TestLaplaceCountsPerfectMazes holds the determinants without a row against the perfect mazes that have no other passages, in all mazes of the grids with up to 7 gaps.
func TestLaplaceCountsPerfectMazes(t *testing.T) {
	for _, g := range allGrids() {
		if mazeCount(g) > 128 {
			continue
		}
		perfect := perfectMazes(g)
		for _, m := range someMazes(g) {
			trees := 0
			for _, tree := range perfect {
				if tree.Open&^m.Open == 0 {
					trees++
				}
			}
			checkLaplace(t, laplaceCase{m: m, want: drawnLaplace(m), trees: trees})
		}
	}
}

// TestLaplaceOfFullMazes has the numbers of perfect mazes of all grids.
func TestLaplaceOfFullMazes(t *testing.T) {
	trees := [4][4]int{{1, 1, 1, 1}, {1, 4, 15, 56}, {1, 15, 192, 2415}, {1, 56, 2415, 100352}}
	for _, g := range allGrids() {
		m := impl.FullMaze(g)
		checkLaplace(t, laplaceCase{m: m, want: drawnLaplace(m), trees: trees[g.High-1][g.Wide-1]})
	}
}

// TestLaplaceOfPerfectMazes: there is one perfect maze in a perfect maze, and none in it with a passage closed.
func TestLaplaceOfPerfectMazes(t *testing.T) {
	for _, g := range allGrids() {
		for _, m := range perfectMazes(g) {
			checkLaplace(t, laplaceCase{m: m, want: drawnLaplace(m), trees: 1})
			if m.Open != 0 {
				closed := impl.Maze{Grid: g, Open: m.Open & (m.Open - 1)}
				checkLaplace(t, laplaceCase{m: closed, want: drawnLaplace(closed), trees: 0})
			}
		}
	}
}

func TestLaplaceOfBadMazes(t *testing.T) {
	for _, m := range badMazes() {
		if got := impl.LaplaceOf(m); len(got) != 0 {
			t.Errorf("LaplaceOf(%v) = %v, want nil", m, got)
		}
	}
}

func TestWithoutRow(t *testing.T) {
	two, three := [][]int{{2, 1}, {-3, 4}}, [][]int{{1, 2, 3}, {4, 5, 6}, {-7, 8, 0}}
	cases := []struct {
		name string
		a    [][]int
		k    int
		want [][]int
	}{
		{"the only one", [][]int{{5}}, 0, nil},
		{"the first of two", two, 0, [][]int{{4}}},
		{"the last of two", two, 1, [][]int{{2}}},
		{"the first of three", three, 0, [][]int{{5, 6}, {8, 0}}},
		{"the middle of three", three, 1, [][]int{{1, 3}, {-7, 0}}},
		{"the last of three", three, 2, [][]int{{1, 2}, {4, 5}}},
		{"after the last of three", three, 3, nil},
		{"before the first of three", three, -1, nil},
		{"no rows", nil, 0, nil},
		{"no rows, before", nil, -1, nil},
		{"no rows, after", [][]int{}, 1, nil},
		{"the first of sixteen", diagonal(append([]int{16}, alike(15, 3)...)...), 0, diagonal(alike(15, 3)...)},
		{"the last of sixteen", diagonal(append(alike(15, 3), -16)...), 15, diagonal(alike(15, 3)...)},
	}
	for _, c := range cases {
		t.Run(c.name, func(t *testing.T) {
			if got := impl.WithoutRow(c.a, c.k); !sameRows(got, c.want) {
				t.Errorf("WithoutRow(%v, %d) = %v, want %v", c.a, c.k, got, c.want)
			}
		})
	}
}

// TestWithoutEachRow leaves out each row and column of matrices of each size.
func TestWithoutEachRow(t *testing.T) {
	for n := 1; n <= 16; n++ {
		for _, a := range manyMatrices(n) {
			for k := range n {
				want := zeros(n-1, n-1)
				for i := range n - 1 {
					for j := range n - 1 {
						from, at := i, j
						if i >= k {
							from++
						}
						if j >= k {
							at++
						}
						want[i][j] = a[from][at]
					}
				}
				if got := impl.WithoutRow(a, k); !sameRows(got, want) || !impl.SquareOk(got) {
					t.Errorf("WithoutRow(%v, %d) = %v, want %v", a, k, got, want)
				}
			}
		}
	}
}

func TestWithoutNoRow(t *testing.T) {
	for n := range 17 {
		a := diagonal(alike(n, 2)...)
		for _, k := range append([]int{-n - 1, -16, -2, -1, n, n + 1, 16, 17, 100}, extremeInts...) {
			if got := impl.WithoutRow(a, k); len(got) != 0 {
				t.Errorf("WithoutRow(%v, %d) = %v, want nil", a, k, got)
			}
		}
	}
}

// roomy returns a copy of a matrix whose list of rows and whose rows all have memory to spare, and these lists with that memory.
func roomy(a [][]int) (rows, whole [][]int) {
	for _, row := range a {
		whole = append(whole, append(slices.Clone(row), 77, 78))
	}
	for i, row := range a {
		rows = append(rows, whole[i][:len(row)])
	}
	spare := append(slices.Clone(rows), []int{79}, []int{80})
	return spare[:len(a)], append(whole, spare...)
}

// TestMatrixIsLeftAlone: no function changes a matrix, nor the memory behind it.
func TestMatrixIsLeftAlone(t *testing.T) {
	for n := range 18 {
		list := [][][]int{diagonal(alike(n, 17)...), zeros(n, n), upsideDown(diagonal(alike(n, 3)...))}
		if n > 0 {
			list = append(list, manyMatrices(n)...)
		}
		for _, original := range list {
			a, whole := roomy(original)
			before := copyOf(whole)
			impl.SquareOk(a)
			impl.Determinant(a)
			for k := -1; k <= n; k++ {
				impl.WithoutRow(a, k)
			}
			if !sameRows(whole, before) || !sameRows(a, original) || !sameRows(a[:n+2][n:], [][]int{{79}, {80}}) {
				t.Errorf("the matrix %v and its memory %v became %v and %v", original, before, a[:n+2], whole)
			}
		}
	}
}

// spoil changes all entries of a matrix and appends to each of its rows, and reports whether its rows share memory.
func spoil(a [][]int) bool {
	before := copyOf(a)
	for i, row := range a {
		if !slices.Equal(row, before[i]) {
			return true
		}
		for j := range row {
			row[j] = 99
		}
		_ = append(row, 99, 99, 99)
	}
	for i := range a {
		if !slices.Equal(a[i], alike(len(before[i]), 99)) {
			return true
		}
	}
	return false
}

func TestMatrixIsNewMemory(t *testing.T) {
	for n := 1; n <= 16; n++ {
		for _, original := range manyMatrices(n) {
			for k := range n {
				a := copyOf(original)
				if spoil(impl.WithoutRow(a, k)) {
					t.Errorf("rows of WithoutRow(%v, %d) share memory", original, k)
				}
				if !sameRows(a, original) {
					t.Errorf("WithoutRow(%v, %d) shares memory with its matrix, which is %v now", original, k, a)
				}
			}
		}
	}
	for _, g := range allGrids() {
		m := impl.FullMaze(g)
		if spoil(impl.LaplaceOf(m)) {
			t.Errorf("rows of LaplaceOf(%v) share memory", m)
		}
		if got := impl.LaplaceOf(m); !sameRows(got, drawnLaplace(m)) {
			t.Errorf("LaplaceOf(%v) = %v, want %v", m, got, drawnLaplace(m))
		}
	}
}

// TestMatrixOfOneRow: a matrix may have the same memory for all its rows.
func TestMatrixOfOneRow(t *testing.T) {
	for n := 1; n <= 16; n++ {
		row := alike(n, 1)
		row[n-1] = -1
		a := slices.Repeat([][]int{row}, n)
		want := 0
		if n == 1 {
			want = -1
		}
		if got := impl.Determinant(a); got != want || !impl.SquareOk(a) {
			t.Errorf("Determinant(%v) = %d, want %d", a, got, want)
		}
		for k := range n {
			left := slices.Delete(slices.Clone(row), k, k+1)
			got := impl.WithoutRow(a, k)
			if !sameRows(got, slices.Repeat([][]int{left}, n-1)) || spoil(got) {
				t.Errorf("WithoutRow(%v, %d) = %v, want rows %v with memory of their own", a, k, got, left)
			}
		}
		if row[0] != 1 && n > 1 || row[n-1] != -1 {
			t.Errorf("the only row of a matrix became %v", row)
		}
	}
}
