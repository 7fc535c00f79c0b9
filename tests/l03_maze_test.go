package tests

import (
	"math"
	"slices"
	"testing"

	"loop.example/g00990/impl"
)

// bentMaze is 3 wide and 2 high. Its gaps 0, 3, 4 and 6 are open, 1, 2 and 5 are closed:
//
//	#######
//	#0 1#2#
//	# ### #
//	#3#4 5#
//	#######
func bentMaze() impl.Maze {
	return impl.Maze{Grid: impl.Grid{Wide: 3, High: 2}, Open: 1 + 8 + 16 + 64}
}

// crossMaze is 3 wide and 3 high; its passages, the gaps 2, 3, 7 and 10, lead from the cell in the middle to its four neighbors.
func crossMaze() impl.Maze {
	return impl.Maze{Grid: impl.Grid{Wide: 3, High: 3}, Open: 4 + 8 + 128 + 1024}
}

// mazeCount returns 2 to the power of the number of gaps of a valid grid.
func mazeCount(g impl.Grid) int {
	n := 1
	for range gapCounts[g.High-1][g.Wide-1] {
		n *= 2
	}
	return n
}

// someMazes holds all mazes of a small grid. Of a large one, it holds those in which no gap is open, all are, one is or all but one are, and some in between.
func someMazes(g impl.Grid) []impl.Maze {
	n := mazeCount(g)
	var list []impl.Maze
	add := func(open int) { list = append(list, impl.Maze{Grid: g, Open: open}) }
	if n <= 4096 {
		for open := range n {
			add(open)
		}
		return list
	}
	add(0)
	add(n - 1)
	for power := 1; power < n; power *= 2 {
		add(power)
		add(n - 1 - power)
	}
	for k := 1; k <= 500; k++ {
		add(k * 7654321 % n)
	}
	return list
}

// badMazes holds mazes with a valid grid and an Open that is not valid, and mazes with a grid that is not valid.
func badMazes() []impl.Maze {
	var list []impl.Maze
	for _, g := range allGrids() {
		n := mazeCount(g)
		for _, open := range append([]int{-1, -2, -n, -n - 1, n, n + 1, 2*n - 1, 2 * n, 3*n - 1, 1 << 24, 1<<25 - 1}, extremeInts...) {
			list = append(list, impl.Maze{Grid: g, Open: open})
		}
	}
	for _, g := range badGrids() {
		for _, open := range []int{-1, 0, 1, 15, 1<<24 - 1, math.MaxInt, math.MinInt} {
			list = append(list, impl.Maze{Grid: g, Open: open})
		}
	}
	return list
}

// isDrawnOpen reads the number of a gap out of Open by halving.
func isDrawnOpen(m impl.Maze, gap int) bool {
	open := m.Open
	for range gap {
		open /= 2
	}
	return open%2 == 1
}

// drawnSteps returns, for each cell of a maze, where a step to the north, east, south and west leads.
func drawnSteps(m impl.Maze) [][4]int {
	steps := make([][4]int, m.Grid.Wide*m.Grid.High)
	for cell := range steps {
		steps[cell] = [4]int{-1, -1, -1, -1}
	}
	for gap, ends := range gapsInOrder(m.Grid) {
		if !isDrawnOpen(m, gap) {
			continue
		}
		there, back := 2, 0
		if gap < (m.Grid.Wide-1)*m.Grid.High {
			there, back = 1, 3
		}
		steps[ends.first][there] = ends.second
		steps[ends.second][back] = ends.first
	}
	return steps
}

func TestMazeOk(t *testing.T) {
	for _, g := range allGrids() {
		n := mazeCount(g)
		for _, open := range []int{0, n / 2, n - 1} {
			if m := (impl.Maze{Grid: g, Open: open}); !impl.MazeOk(m) {
				t.Errorf("MazeOk(%v) = false, want true", m)
			}
		}
		for _, m := range someMazes(g) {
			if !impl.MazeOk(m) {
				t.Errorf("MazeOk(%v) = false, want true", m)
			}
		}
	}
	for _, m := range badMazes() {
		if impl.MazeOk(m) {
			t.Errorf("MazeOk(%v) = true, want false", m)
		}
	}
}

func TestMazeOkLimits(t *testing.T) {
	cases := []struct {
		wide, high, open int
		want             bool
	}{
		{0, 0, 0, false},
		{1, 1, -1, false}, {1, 1, 0, true}, {1, 1, 1, false},
		{2, 1, -1, false}, {2, 1, 0, true}, {2, 1, 1, true}, {2, 1, 2, false},
		{1, 2, 1, true}, {1, 2, 2, false}, {1, 4, 7, true}, {1, 4, 8, false}, {4, 1, 7, true}, {4, 1, 8, false},
		{2, 2, 15, true}, {2, 2, 16, false}, {3, 2, 127, true}, {3, 2, 128, false}, {2, 3, 127, true}, {2, 3, 128, false},
		{3, 3, 4095, true}, {3, 3, 4096, false}, {4, 3, 131071, true}, {4, 3, 131072, false}, {3, 4, 131071, true}, {3, 4, 131072, false},
		{4, 4, -1, false}, {4, 4, 0, true}, {4, 4, 16777215, true}, {4, 4, 16777216, false},
		{5, 4, 0, false}, {4, 5, 0, false}, {0, 1, 0, false}, {1, 0, 0, false}, {-1, -1, 0, false},
	}
	for _, c := range cases {
		m := impl.Maze{Grid: impl.Grid{Wide: c.wide, High: c.high}, Open: c.open}
		if got := impl.MazeOk(m); got != c.want {
			t.Errorf("MazeOk(%v) = %v, want %v", m, got, c.want)
		}
	}
}

func TestBentMaze(t *testing.T) {
	m := bentMaze()
	for gap, want := range []bool{true, false, false, true, true, false, true} {
		if got := impl.IsPassage(m, gap); got != want {
			t.Errorf("IsPassage of gap %d = %v, want %v", gap, got, want)
		}
	}
	steps := [][4]int{{-1, 1, 3, -1}, {-1, -1, -1, 0}, {-1, -1, 5, -1}, {0, -1, -1, -1}, {-1, 5, -1, -1}, {2, -1, -1, 4}}
	ways := [][]int{{1, 2}, {3}, {2}, {0}, {1}, {0, 3}}
	for cell := range 6 {
		for _, direction := range allDirections {
			if got := impl.Step(m, cell, direction); got != steps[cell][direction] {
				t.Errorf("Step from %d to %d = %d, want %d", cell, direction, got, steps[cell][direction])
			}
		}
		if got := impl.WaysFrom(m, cell); !slices.Equal(got, ways[cell]) {
			t.Errorf("WaysFrom %d = %v, want %v", cell, got, ways[cell])
		}
	}
	if got := impl.CountPassages(m); got != 4 {
		t.Errorf("CountPassages = %d, want 4", got)
	}
}

func TestCrossMaze(t *testing.T) {
	m := crossMaze()
	ways := [][]int{{}, {impl.South}, {}, {impl.East}, {impl.North, impl.East, impl.South, impl.West}, {impl.West}, {}, {impl.North}, {}}
	for cell, want := range ways {
		if got := impl.WaysFrom(m, cell); !slices.Equal(got, want) {
			t.Errorf("WaysFrom %d = %v, want %v", cell, got, want)
		}
	}
	for direction, want := range []int{1, 5, 7, 3} {
		if got := impl.Step(m, 4, direction); got != want {
			t.Errorf("Step from 4 to %d = %d, want %d", direction, got, want)
		}
	}
	if got := impl.CountPassages(m); got != 4 {
		t.Errorf("CountPassages = %d, want 4", got)
	}
}

// TestMazesAsDrawn holds each function against the gaps as the document draws them.
func TestMazesAsDrawn(t *testing.T) {
	for _, g := range allGrids() {
		for _, m := range someMazes(g) {
			passages := 0
			for gap := range gapsInOrder(g) {
				want := isDrawnOpen(m, gap)
				if want {
					passages++
				}
				if got := impl.IsPassage(m, gap); got != want {
					t.Errorf("IsPassage(%v, %d) = %v, want %v", m, gap, got, want)
				}
			}
			if got := impl.CountPassages(m); got != passages {
				t.Errorf("CountPassages(%v) = %d, want %d", m, got, passages)
			}
			for cell, steps := range drawnSteps(m) {
				var ways []int
				for direction, want := range steps {
					if want >= 0 {
						ways = append(ways, direction)
					}
					if got := impl.Step(m, cell, direction); got != want {
						t.Errorf("Step(%v, %d, %d) = %d, want %d", m, cell, direction, got, want)
					}
				}
				if got := impl.WaysFrom(m, cell); !slices.Equal(got, ways) {
					t.Errorf("WaysFrom(%v, %d) = %v, want %v", m, cell, got, ways)
				}
			}
		}
	}
}

// TestPassagesBothWays is promise 3: passages can be walked in both directions, and walls in none.
func TestPassagesBothWays(t *testing.T) {
	for _, g := range allGrids() {
		for _, m := range someMazes(g) {
			steps := 0
			for cell := range impl.CountCells(g) {
				for _, direction := range impl.WaysFrom(m, cell) {
					steps++
					other, back := impl.Step(m, cell, direction), (direction+2)%4
					if impl.Step(m, other, back) != cell || !slices.Contains(impl.WaysFrom(m, other), back) {
						t.Errorf("%v: a step leads from %d to %d, but none leads back", m, cell, other)
					}
					if !impl.IsPassage(m, impl.GapAt(g, cell, direction)) || !impl.IsPassage(m, impl.GapAt(g, other, back)) {
						t.Errorf("%v: a step leads from %d to %d, but there is no passage", m, cell, other)
					}
				}
			}
			if want := 2 * impl.CountPassages(m); steps != want {
				t.Errorf("%v: %d steps can be done, want %d", m, steps, want)
			}
			for gap := range impl.CountGaps(g) {
				first, second := impl.EndsOf(g, gap)
				there, back := impl.East, impl.West
				if gap >= (g.Wide-1)*g.High {
					there, back = impl.South, impl.North
				}
				wantThere, wantBack := -1, -1
				if impl.IsPassage(m, gap) {
					wantThere, wantBack = second, first
				}
				if gotThere, gotBack := impl.Step(m, first, there), impl.Step(m, second, back); gotThere != wantThere || gotBack != wantBack {
					t.Errorf("%v: through gap %d, steps lead to %d and %d, want %d and %d", m, gap, gotThere, gotBack, wantThere, wantBack)
				}
			}
		}
	}
}

func TestNoPassage(t *testing.T) {
	for _, g := range allGrids() {
		m := impl.Maze{Grid: g}
		if got := impl.CountPassages(m); got != 0 {
			t.Errorf("CountPassages(%v) = %d, want 0", m, got)
		}
		for gap := range impl.CountGaps(g) {
			if impl.IsPassage(m, gap) {
				t.Errorf("IsPassage(%v, %d) = true, want false", m, gap)
			}
		}
		for cell := range impl.CountCells(g) {
			for _, direction := range allDirections {
				if got := impl.Step(m, cell, direction); got != -1 {
					t.Errorf("Step(%v, %d, %d) = %d, want -1", m, cell, direction, got)
				}
			}
			if got := impl.WaysFrom(m, cell); len(got) != 0 {
				t.Errorf("WaysFrom(%v, %d) = %v, want none", m, cell, got)
			}
		}
	}
}

func TestFullMaze(t *testing.T) {
	for _, g := range allGrids() {
		m := impl.FullMaze(g)
		if want := (impl.Maze{Grid: g, Open: mazeCount(g) - 1}); m != want {
			t.Errorf("FullMaze(%v) = %v, want %v", g, m, want)
		}
		if got, want := impl.CountPassages(m), gapCounts[g.High-1][g.Wide-1]; !impl.MazeOk(m) || got != want {
			t.Errorf("%v: MazeOk is %v and CountPassages %d, want true and %d", m, impl.MazeOk(m), got, want)
		}
		for gap := range impl.CountGaps(g) {
			if !impl.IsPassage(m, gap) {
				t.Errorf("IsPassage(%v, %d) = false, want true", m, gap)
			}
		}
		for cell := range impl.CountCells(g) {
			for _, direction := range allDirections {
				if got, want := impl.Step(m, cell, direction), impl.Neighbor(g, cell, direction); got != want {
					t.Errorf("Step(%v, %d, %d) = %d, want %d", m, cell, direction, got, want)
				}
			}
		}
	}
	for _, g := range badGrids() {
		if got := impl.FullMaze(g); got != (impl.Maze{}) {
			t.Errorf("FullMaze(%v) = %v, want the zero Maze", g, got)
		}
	}
}

func TestFullMazeOpen(t *testing.T) {
	cases := []struct{ wide, high, open int }{
		{1, 1, 0}, {2, 1, 1}, {1, 2, 1}, {4, 1, 7}, {1, 4, 7}, {2, 2, 15}, {3, 2, 127}, {2, 3, 127}, {3, 3, 4095}, {4, 3, 131071}, {4, 4, 16777215},
	}
	for _, c := range cases {
		g := impl.Grid{Wide: c.wide, High: c.high}
		if got, want := impl.FullMaze(g), (impl.Maze{Grid: g, Open: c.open}); got != want {
			t.Errorf("FullMaze(%v) = %v, want %v", g, got, want)
		}
	}
	for _, g := range []impl.Grid{{}, {Wide: 5, High: 4}, {Wide: 4, High: 5}, {Wide: 0, High: 3}, {Wide: 3, High: 0}, {Wide: -2, High: -2}} {
		if got := impl.FullMaze(g); got != (impl.Maze{}) {
			t.Errorf("FullMaze(%v) = %v, want the zero Maze", g, got)
		}
	}
}

// TestOneCell looks at the grid of one cell, which has no gap.
func TestOneCell(t *testing.T) {
	m := impl.Maze{Grid: impl.Grid{Wide: 1, High: 1}}
	if !impl.MazeOk(m) || impl.IsPassage(m, 0) || impl.CountPassages(m) != 0 || len(impl.WaysFrom(m, 0)) != 0 || impl.FullMaze(m.Grid) != m {
		t.Errorf("unexpected result for %v", m)
	}
	for _, direction := range allDirections {
		if got := impl.Step(m, 0, direction); got != -1 {
			t.Errorf("Step(%v, 0, %d) = %d, want -1", m, direction, got)
		}
	}
	for _, open := range []bool{false, true} {
		if got, ok := impl.SetGap(m, 0, open); ok || got != m {
			t.Errorf("SetGap(%v, 0, %v) = %v, %v, want it unchanged and false", m, open, got, ok)
		}
	}
}

func TestSetGap(t *testing.T) {
	small, large := impl.Grid{Wide: 2, High: 2}, impl.Grid{Wide: 4, High: 4}
	cases := []struct {
		g         impl.Grid
		from, gap int
		open      bool
		want      int
	}{
		{small, 13, 1, true, 15}, {small, 13, 1, false, 13},
		{small, 13, 0, true, 13}, {small, 13, 0, false, 12},
		{small, 13, 3, true, 13}, {small, 13, 3, false, 5},
		{small, 0, 0, true, 1}, {small, 0, 0, false, 0}, {small, 0, 3, true, 8}, {small, 0, 3, false, 0},
		{small, 15, 0, true, 15}, {small, 15, 0, false, 14}, {small, 15, 3, true, 15}, {small, 15, 3, false, 7},
		{large, 0, 0, true, 1}, {large, 0, 12, true, 4096}, {large, 0, 23, true, 8388608},
		{large, 16777215, 0, false, 16777214}, {large, 16777215, 11, false, 16775167}, {large, 16777215, 23, false, 8388607},
	}
	for _, c := range cases {
		m := impl.Maze{Grid: c.g, Open: c.from}
		got, ok := impl.SetGap(m, c.gap, c.open)
		if want := (impl.Maze{Grid: c.g, Open: c.want}); !ok || got != want {
			t.Errorf("SetGap(%v, %d, %v) = %v, %v, want %v, true", m, c.gap, c.open, got, ok, want)
		}
	}
}

// TestSetGapLeavesTheOthers sets each gap of each maze, to what it is already, too: only this gap changes, and setting it back gives the maze back.
func TestSetGapLeavesTheOthers(t *testing.T) {
	for _, g := range allGrids() {
		for _, m := range someMazes(g) {
			for gap := range impl.CountGaps(g) {
				was := isDrawnOpen(m, gap)
				same, ok := impl.SetGap(m, gap, was)
				if !ok || same != m {
					t.Fatalf("SetGap(%v, %d, %v) = %v, %v, want it unchanged and true", m, gap, was, same, ok)
				}
				other, ok := impl.SetGap(m, gap, !was)
				if !ok || other.Grid != g || !impl.MazeOk(other) {
					t.Fatalf("SetGap(%v, %d, %v) = %v, %v, want a maze of this grid and true", m, gap, !was, other, ok)
				}
				for k := range impl.CountGaps(g) {
					if want := isDrawnOpen(m, k) != (k == gap); impl.IsPassage(other, k) != want {
						t.Fatalf("after SetGap(%v, %d, %v), IsPassage of gap %d is %v, want %v", m, gap, !was, k, !want, want)
					}
				}
				if back, ok := impl.SetGap(other, gap, was); !ok || back != m {
					t.Fatalf("SetGap(%v, %d, %v) = %v, %v, want %v, true", other, gap, was, back, ok, m)
				}
			}
		}
	}
}

// TestNoGapInMaze asks for gaps before the first and after the last one of mazes in which no gap, some gaps or all gaps are open.
func TestNoGapInMaze(t *testing.T) {
	for _, g := range allGrids() {
		n := gapCounts[g.High-1][g.Wide-1]
		for _, open := range []int{0, mazeCount(g) / 2, mazeCount(g) - 1} {
			m := impl.Maze{Grid: g, Open: open}
			for _, gap := range append([]int{-64, -n - 1, -2, -1, n, n + 1, 24, 25, 31, 32, 63, 64, 65}, extremeInts...) {
				if gap >= 0 && gap < n {
					continue
				}
				if impl.IsPassage(m, gap) {
					t.Errorf("IsPassage(%v, %d) = true, want false", m, gap)
				}
				for _, set := range []bool{false, true} {
					if got, ok := impl.SetGap(m, gap, set); ok || got != m {
						t.Errorf("SetGap(%v, %d, %v) = %v, %v, want it unchanged and false", m, gap, set, got, ok)
					}
				}
			}
		}
	}
}

func TestNoCellOrDirectionInMaze(t *testing.T) {
	for _, g := range allGrids() {
		m, n := impl.FullMaze(g), impl.CountCells(g)
		for _, cell := range append([]int{-g.Wide, -2, -1, n, n + 1, n + g.Wide, 100}, extremeInts...) {
			for direction := -2; direction <= 5; direction++ {
				if got := impl.Step(m, cell, direction); got != -1 {
					t.Errorf("Step(%v, %d, %d) = %d, want -1", m, cell, direction, got)
				}
			}
			if got := impl.WaysFrom(m, cell); len(got) != 0 {
				t.Errorf("WaysFrom(%v, %d) = %v, want none", m, cell, got)
			}
		}
		for cell := range n {
			for _, direction := range append([]int{-4, -3, -2, -1, 4, 5, 6, 7, 8}, extremeInts...) {
				if got := impl.Step(m, cell, direction); got != -1 {
					t.Errorf("Step(%v, %d, %d) = %d, want -1", m, cell, direction, got)
				}
			}
		}
	}
}

func TestBadMazes(t *testing.T) {
	for _, m := range badMazes() {
		if got := impl.CountPassages(m); got != 0 {
			t.Errorf("CountPassages(%v) = %d, want 0", m, got)
		}
		for n := -1; n <= 25; n++ {
			if impl.IsPassage(m, n) {
				t.Errorf("IsPassage(%v, %d) = true, want false", m, n)
			}
			for _, open := range []bool{false, true} {
				if got, ok := impl.SetGap(m, n, open); ok || got != m {
					t.Errorf("SetGap(%v, %d, %v) = %v, %v, want it unchanged and false", m, n, open, got, ok)
				}
			}
			if got := impl.WaysFrom(m, n); len(got) != 0 {
				t.Errorf("WaysFrom(%v, %d) = %v, want none", m, n, got)
			}
			for direction := -1; direction <= 4; direction++ {
				if got := impl.Step(m, n, direction); got != -1 {
					t.Errorf("Step(%v, %d, %d) = %d, want -1", m, n, direction, got)
				}
			}
		}
	}
}

func TestWaysFromIsNewMemory(t *testing.T) {
	m := crossMaze()
	first := impl.WaysFrom(m, 4)
	second := impl.WaysFrom(m, 4)
	for i := range first {
		first[i] = 9
	}
	want := []int{0, 1, 2, 3}
	if third := impl.WaysFrom(m, 4); !slices.Equal(second, want) || !slices.Equal(third, want) {
		t.Errorf("WaysFrom = %v and %v after a result was changed, want %v", second, third, want)
	}
}
