package tests

import (
	"math"
	"slices"
	"testing"

	"loop.example/g00990/impl"
)

var allDirections = []int{impl.North, impl.East, impl.South, impl.West}

// extremeInts holds numbers with which a sum or a product of the program could overflow.
var extremeInts = []int{math.MinInt, math.MinInt + 1, math.MinInt32, -1 << 32, 1 << 32, 1<<32 + 1, math.MaxInt32, 1 << 62, math.MaxInt - 1, math.MaxInt}

// gapCounts has the number of gaps of each grid, one row for each height, one number for each width.
var gapCounts = [4][4]int{{0, 1, 2, 3}, {1, 4, 7, 10}, {2, 7, 12, 17}, {3, 10, 17, 24}}

// allGrids holds the 16 valid grids.
func allGrids() []impl.Grid {
	var list []impl.Grid
	for high := 1; high <= 4; high++ {
		for wide := 1; wide <= 4; wide++ {
			list = append(list, impl.Grid{Wide: wide, High: high})
		}
	}
	return list
}

// badGrids holds grids of which the width, the height or both are not valid.
func badGrids() []impl.Grid {
	bad := append([]int{-5, -4, -2, -1, 0, 5, 6, 16, 17}, extremeInts...)
	var list []impl.Grid
	for _, n := range bad {
		for good := 1; good <= 4; good++ {
			list = append(list, impl.Grid{Wide: n, High: good}, impl.Grid{Wide: good, High: n})
		}
		for _, other := range bad {
			list = append(list, impl.Grid{Wide: n, High: other})
		}
	}
	return list
}

// neighborPair is a gap as the document draws it: the western or northern cell and the other one.
type neighborPair struct{ first, second int }

// gapsInOrder writes the gaps of a grid down in the order in which the document numbers them.
func gapsInOrder(g impl.Grid) []neighborPair {
	var list []neighborPair
	for row := 0; row < g.High; row++ {
		for column := 0; column+1 < g.Wide; column++ {
			list = append(list, neighborPair{row*g.Wide + column, row*g.Wide + column + 1})
		}
	}
	for row := 0; row+1 < g.High; row++ {
		for column := 0; column < g.Wide; column++ {
			list = append(list, neighborPair{row*g.Wide + column, (row+1)*g.Wide + column})
		}
	}
	return list
}

func TestGridLimits(t *testing.T) {
	got := []int{impl.MaxWide, impl.MaxHigh, impl.North, impl.East, impl.South, impl.West}
	if want := []int{4, 4, 0, 1, 2, 3}; !slices.Equal(got, want) {
		t.Errorf("limits and directions %v, want %v", got, want)
	}
}

func TestGridOk(t *testing.T) {
	for _, g := range allGrids() {
		if !impl.GridOk(g) {
			t.Errorf("GridOk(%v) = false, want true", g)
		}
	}
	for _, g := range badGrids() {
		if impl.GridOk(g) {
			t.Errorf("GridOk(%v) = true, want false", g)
		}
	}
}

func TestGridOkLimits(t *testing.T) {
	cases := []struct {
		g    impl.Grid
		want bool
	}{
		{impl.Grid{}, false},
		{impl.Grid{Wide: 1, High: 1}, true},
		{impl.Grid{Wide: 4, High: 4}, true},
		{impl.Grid{Wide: 4, High: 1}, true},
		{impl.Grid{Wide: 1, High: 4}, true},
		{impl.Grid{Wide: 5, High: 4}, false},
		{impl.Grid{Wide: 4, High: 5}, false},
		{impl.Grid{Wide: 5, High: 5}, false},
		{impl.Grid{Wide: 0, High: 1}, false},
		{impl.Grid{Wide: 1, High: 0}, false},
		{impl.Grid{Wide: -1, High: -1}, false},
		{impl.Grid{Wide: -4, High: 4}, false},
	}
	for _, c := range cases {
		if got := impl.GridOk(c.g); got != c.want {
			t.Errorf("GridOk(%v) = %v, want %v", c.g, got, c.want)
		}
	}
}

func TestCountCellsAndGaps(t *testing.T) {
	// Laid out like gapCounts.
	cells := [4][4]int{{1, 2, 3, 4}, {2, 4, 6, 8}, {3, 6, 9, 12}, {4, 8, 12, 16}}
	for _, g := range allGrids() {
		if got, want := impl.CountCells(g), cells[g.High-1][g.Wide-1]; got != want {
			t.Errorf("CountCells(%v) = %d, want %d", g, got, want)
		}
		if got, want := impl.CountGaps(g), gapCounts[g.High-1][g.Wide-1]; got != want {
			t.Errorf("CountGaps(%v) = %d, want %d", g, got, want)
		}
	}
}

func TestNeighbor(t *testing.T) {
	cases := []struct {
		g    impl.Grid
		want [][4]int
	}{
		{impl.Grid{Wide: 1, High: 1}, [][4]int{{-1, -1, -1, -1}}},
		{impl.Grid{Wide: 1, High: 2}, [][4]int{{-1, -1, 1, -1}, {0, -1, -1, -1}}},
		{impl.Grid{Wide: 1, High: 4}, [][4]int{{-1, -1, 1, -1}, {0, -1, 2, -1}, {1, -1, 3, -1}, {2, -1, -1, -1}}},
		{impl.Grid{Wide: 4, High: 1}, [][4]int{{-1, 1, -1, -1}, {-1, 2, -1, 0}, {-1, 3, -1, 1}, {-1, -1, -1, 2}}},
		{impl.Grid{Wide: 2, High: 2}, [][4]int{{-1, 1, 2, -1}, {-1, -1, 3, 0}, {0, 3, -1, -1}, {1, -1, -1, 2}}},
		{impl.Grid{Wide: 3, High: 2}, [][4]int{{-1, 1, 3, -1}, {-1, 2, 4, 0}, {-1, -1, 5, 1}, {0, 4, -1, -1}, {1, 5, -1, 3}, {2, -1, -1, 4}}},
		{impl.Grid{Wide: 2, High: 3}, [][4]int{{-1, 1, 2, -1}, {-1, -1, 3, 0}, {0, 3, 4, -1}, {1, -1, 5, 2}, {2, 5, -1, -1}, {3, -1, -1, 4}}},
	}
	for _, c := range cases {
		for cell, row := range c.want {
			for _, direction := range allDirections {
				if got := impl.Neighbor(c.g, cell, direction); got != row[direction] {
					t.Errorf("Neighbor(%v, %d, %d) = %d, want %d", c.g, cell, direction, got, row[direction])
				}
			}
		}
	}
}

func TestGapAt(t *testing.T) {
	cases := []struct {
		g    impl.Grid
		want [][4]int
	}{
		{impl.Grid{Wide: 1, High: 1}, [][4]int{{-1, -1, -1, -1}}},
		{impl.Grid{Wide: 2, High: 1}, [][4]int{{-1, 0, -1, -1}, {-1, -1, -1, 0}}},
		{impl.Grid{Wide: 1, High: 4}, [][4]int{{-1, -1, 0, -1}, {0, -1, 1, -1}, {1, -1, 2, -1}, {2, -1, -1, -1}}},
		{impl.Grid{Wide: 4, High: 1}, [][4]int{{-1, 0, -1, -1}, {-1, 1, -1, 0}, {-1, 2, -1, 1}, {-1, -1, -1, 2}}},
		{impl.Grid{Wide: 3, High: 2}, [][4]int{{-1, 0, 4, -1}, {-1, 1, 5, 0}, {-1, -1, 6, 1}, {4, 2, -1, -1}, {5, 3, -1, 2}, {6, -1, -1, 3}}},
		{impl.Grid{Wide: 2, High: 3}, [][4]int{{-1, 0, 3, -1}, {-1, -1, 4, 0}, {3, 1, 5, -1}, {4, -1, 6, 1}, {5, 2, -1, -1}, {6, -1, -1, 2}}},
	}
	for _, c := range cases {
		for cell, row := range c.want {
			for _, direction := range allDirections {
				if got := impl.GapAt(c.g, cell, direction); got != row[direction] {
					t.Errorf("GapAt(%v, %d, %d) = %d, want %d", c.g, cell, direction, got, row[direction])
				}
			}
		}
	}
}

func TestEndsOf(t *testing.T) {
	cases := []struct {
		g    impl.Grid
		want []neighborPair
	}{
		{impl.Grid{Wide: 1, High: 1}, nil},
		{impl.Grid{Wide: 2, High: 1}, []neighborPair{{0, 1}}},
		{impl.Grid{Wide: 1, High: 2}, []neighborPair{{0, 1}}},
		{impl.Grid{Wide: 4, High: 1}, []neighborPair{{0, 1}, {1, 2}, {2, 3}}},
		{impl.Grid{Wide: 1, High: 4}, []neighborPair{{0, 1}, {1, 2}, {2, 3}}},
		{impl.Grid{Wide: 2, High: 2}, []neighborPair{{0, 1}, {2, 3}, {0, 2}, {1, 3}}},
		{impl.Grid{Wide: 3, High: 2}, []neighborPair{{0, 1}, {1, 2}, {3, 4}, {4, 5}, {0, 3}, {1, 4}, {2, 5}}},
		{impl.Grid{Wide: 2, High: 3}, []neighborPair{{0, 1}, {2, 3}, {4, 5}, {0, 2}, {1, 3}, {2, 4}, {3, 5}}},
	}
	for _, c := range cases {
		for gap, want := range c.want {
			first, second := impl.EndsOf(c.g, gap)
			if first != want.first || second != want.second {
				t.Errorf("EndsOf(%v, %d) = %d, %d, want %d, %d", c.g, gap, first, second, want.first, want.second)
			}
		}
		for _, gap := range []int{-1, len(c.want), len(c.want) + 1} {
			if first, second := impl.EndsOf(c.g, gap); first != -1 || second != -1 {
				t.Errorf("EndsOf(%v, %d) = %d, %d, want -1, -1", c.g, gap, first, second)
			}
		}
	}
}

// TestEndsOfBorders looks at the first and the last gap of each of the two kinds on the largest grid, and at one past each end.
func TestEndsOfBorders(t *testing.T) {
	g := impl.Grid{Wide: 4, High: 4}
	cases := []struct{ gap, first, second int }{
		{-1, -1, -1}, {0, 0, 1}, {2, 2, 3}, {3, 4, 5}, {11, 14, 15}, {12, 0, 4}, {15, 3, 7}, {16, 4, 8}, {23, 11, 15}, {24, -1, -1},
	}
	for _, c := range cases {
		first, second := impl.EndsOf(g, c.gap)
		if first != c.first || second != c.second {
			t.Errorf("EndsOf(%v, %d) = %d, %d, want %d, %d", g, c.gap, first, second, c.first, c.second)
		}
	}
}

// TestGapsInOrder holds each gap of each grid against the order of the document.
func TestGapsInOrder(t *testing.T) {
	for _, g := range allGrids() {
		list := gapsInOrder(g)
		if got := impl.CountGaps(g); got != len(list) {
			t.Errorf("CountGaps(%v) = %d, want %d", g, got, len(list))
		}
		for gap, want := range list {
			first, second := impl.EndsOf(g, gap)
			if first != want.first || second != want.second {
				t.Errorf("EndsOf(%v, %d) = %d, %d, want %d, %d", g, gap, first, second, want.first, want.second)
			}
		}
	}
}

// TestGapBetweenNeighbors is promise 2: each gap lies between two neighbors, and is the same from both sides.
func TestGapBetweenNeighbors(t *testing.T) {
	for _, g := range allGrids() {
		for gap := range impl.CountGaps(g) {
			first, second := impl.EndsOf(g, gap)
			there, back := impl.East, impl.West
			if gap >= (g.Wide-1)*g.High {
				there, back = impl.South, impl.North
			}
			if impl.Neighbor(g, first, there) != second || impl.Neighbor(g, second, back) != first {
				t.Errorf("%v: the ends %d and %d of gap %d are no neighbors", g, first, second, gap)
			}
			if impl.GapAt(g, first, there) != gap || impl.GapAt(g, second, back) != gap {
				t.Errorf("%v: gap %d is %d from %d and %d from %d", g, gap, impl.GapAt(g, first, there), first, impl.GapAt(g, second, back), second)
			}
		}
	}
}

// TestEverySideOfEveryCell goes the other way: from the cells to the gaps. Each gap is met exactly twice.
func TestEverySideOfEveryCell(t *testing.T) {
	for _, g := range allGrids() {
		met := make([]int, impl.CountGaps(g))
		for cell := range impl.CountCells(g) {
			for _, direction := range allDirections {
				other, gap := impl.Neighbor(g, cell, direction), impl.GapAt(g, cell, direction)
				opposite := (direction + 2) % 4
				if (other < 0) != (gap < 0) {
					t.Fatalf("%v: Neighbor of %d to %d is %d, but GapAt is %d", g, cell, direction, other, gap)
				}
				if other < 0 {
					continue
				}
				met[gap]++
				first, second := impl.EndsOf(g, gap)
				if first != min(cell, other) || second != max(cell, other) {
					t.Errorf("EndsOf(%v, %d) = %d, %d, want the cells %d and %d", g, gap, first, second, cell, other)
				}
				if impl.Neighbor(g, other, opposite) != cell || impl.GapAt(g, other, opposite) != gap {
					t.Errorf("%v: from %d to %d there is a way, but not back", g, cell, other)
				}
			}
		}
		for gap, n := range met {
			if n != 2 {
				t.Errorf("%v: gap %d is met %d times, want 2", g, gap, n)
			}
		}
	}
}

// TestNoWayOut goes around each grid: no neighbor and no gap lies outside it.
func TestNoWayOut(t *testing.T) {
	for _, g := range allGrids() {
		check := func(cell, direction int) {
			if other, gap := impl.Neighbor(g, cell, direction), impl.GapAt(g, cell, direction); other != -1 || gap != -1 {
				t.Errorf("%v: from %d to %d are cell %d and gap %d, want -1 and -1", g, cell, direction, other, gap)
			}
		}
		for column := range g.Wide {
			check(column, impl.North)
			check((g.High-1)*g.Wide+column, impl.South)
		}
		for row := range g.High {
			check(row*g.Wide, impl.West)
			check(row*g.Wide+g.Wide-1, impl.East)
		}
	}
}

func TestNoSuchCell(t *testing.T) {
	for _, g := range allGrids() {
		n := impl.CountCells(g)
		for _, cell := range append([]int{-g.Wide, -2, -1, n, n + 1, n + g.Wide, 100}, extremeInts...) {
			for direction := -2; direction <= 5; direction++ {
				if other, gap := impl.Neighbor(g, cell, direction), impl.GapAt(g, cell, direction); other != -1 || gap != -1 {
					t.Errorf("%v: from no cell %d to %d are cell %d and gap %d, want -1 and -1", g, cell, direction, other, gap)
				}
			}
		}
	}
}

func TestNoSuchDirection(t *testing.T) {
	for _, g := range allGrids() {
		for cell := range impl.CountCells(g) {
			for _, direction := range append([]int{-4, -3, -2, -1, 4, 5, 6, 7, 8}, extremeInts...) {
				if other, gap := impl.Neighbor(g, cell, direction), impl.GapAt(g, cell, direction); other != -1 || gap != -1 {
					t.Errorf("%v: from %d to no direction %d are cell %d and gap %d, want -1 and -1", g, cell, direction, other, gap)
				}
			}
		}
	}
}

func TestNoSuchGap(t *testing.T) {
	for _, g := range allGrids() {
		n := impl.CountGaps(g)
		for _, gap := range append([]int{-g.Wide, -2, -1, n, n + 1, n + g.Wide, 100}, extremeInts...) {
			if first, second := impl.EndsOf(g, gap); first != -1 || second != -1 {
				t.Errorf("EndsOf(%v, %d) = %d, %d, want -1, -1", g, gap, first, second)
			}
		}
	}
}

func TestBadGrids(t *testing.T) {
	numbers := append([]int{-2, -1, 0, 1, 2, 3, 4, 5, 8, 15, 16, 19, 20, 23, 24, 31}, extremeInts...)
	for _, g := range badGrids() {
		if cells, gaps := impl.CountCells(g), impl.CountGaps(g); cells != 0 || gaps != 0 {
			t.Errorf("%v has %d cells and %d gaps, want 0 and 0", g, cells, gaps)
		}
		for _, n := range numbers {
			if first, second := impl.EndsOf(g, n); first != -1 || second != -1 {
				t.Errorf("EndsOf(%v, %d) = %d, %d, want -1, -1", g, n, first, second)
			}
			for direction := -1; direction <= 4; direction++ {
				if other, gap := impl.Neighbor(g, n, direction), impl.GapAt(g, n, direction); other != -1 || gap != -1 {
					t.Errorf("%v: from %d to %d are cell %d and gap %d, want -1 and -1", g, n, direction, other, gap)
				}
			}
		}
	}
}

func TestTurnRight(t *testing.T) {
	cases := []struct{ direction, want int }{
		{impl.North, impl.East}, {impl.East, impl.South}, {impl.South, impl.West}, {impl.West, impl.North},
		{-5, -1}, {-4, -1}, {-2, -1}, {-1, -1}, {4, -1}, {5, -1}, {7, -1}, {8, -1},
	}
	for _, c := range cases {
		if got := impl.TurnRight(c.direction); got != c.want {
			t.Errorf("TurnRight(%d) = %d, want %d", c.direction, got, c.want)
		}
	}
	for _, direction := range extremeInts {
		if got := impl.TurnRight(direction); got != -1 {
			t.Errorf("TurnRight(%d) = %d, want -1", direction, got)
		}
	}
}
