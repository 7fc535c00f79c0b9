package tests

import (
	"math/rand/v2"
	"slices"
	"testing"

	"loop.example/g00990/impl"
)

// withGaps returns a maze with further gaps opened.
func withGaps(m impl.Maze, gaps ...int) impl.Maze {
	for _, gap := range gaps {
		m = withGap(m, gap, true)
	}
	return m
}

// withoutGaps returns a maze with some gaps closed.
func withoutGaps(m impl.Maze, gaps ...int) impl.Maze {
	for _, gap := range gaps {
		m = withGap(m, gap, false)
	}
	return m
}

// timesAsked is how often a function is called with the same arguments. A result that hangs on the order in which a map is ranged over would not be the same so many times, over all mazes.
const timesAsked = 4

// alwaysMaze returns what a function makes of a maze, which is the same maze each time.
func alwaysMaze(t *testing.T, name string, mazeOf func(impl.Maze) impl.Maze, m impl.Maze) impl.Maze {
	t.Helper()
	got := mazeOf(m)
	for range timesAsked - 1 {
		if again := mazeOf(m); again != got {
			t.Errorf("%s(%v) = %v, and then %v", name, m, got, again)
		}
	}
	return got
}

// braidCase is a maze, the gaps that BraidMaze opens, and the dead ends that it leaves.
type braidCase struct {
	name   string
	m      impl.Maze
	opened []int
	left   []int
}

func braidCases() []braidCase {
	one, row, column := impl.Grid{Wide: 1, High: 1}, impl.Grid{Wide: 4, High: 1}, impl.Grid{Wide: 1, High: 4}
	small, wide, high := impl.Grid{Wide: 2, High: 2}, impl.Grid{Wide: 3, High: 2}, impl.Grid{Wide: 2, High: 3}
	nine, large := impl.Grid{Wide: 3, High: 3}, impl.Grid{Wide: 4, High: 4}
	with := func(g impl.Grid, gaps ...int) impl.Maze { return impl.Maze{Grid: g, Open: bitsOf(gaps...)} }
	return []braidCase{
		{"one cell", with(one), nil, nil},
		{"two cells in a row and a wall", with(impl.Grid{Wide: 2, High: 1}), nil, nil},
		{"two cells in a row and a passage", with(impl.Grid{Wide: 2, High: 1}, 0), nil, []int{0, 1}},
		{"two cells in a column and a wall", with(impl.Grid{Wide: 1, High: 2}), nil, nil},
		{"two cells in a column and a passage", with(impl.Grid{Wide: 1, High: 2}, 0), nil, []int{0, 1}},
		{"three cells in a row, the first passage", with(impl.Grid{Wide: 3, High: 1}, 0), []int{1}, []int{0, 2}},
		{"three cells in a row, the last passage", with(impl.Grid{Wide: 3, High: 1}, 1), []int{0}, []int{0, 2}},
		{"a row without passages", with(row), nil, nil},
		{"a row", with(row, 0, 1, 2), nil, []int{0, 3}},
		{"a row, the first passage", with(row, 0), []int{1, 2}, []int{0, 3}},
		{"a row, the passage in the middle", with(row, 1), []int{0, 2}, []int{0, 3}},
		{"a row, the last passage, and a cell that has one only after its turn", with(row, 2), []int{1}, []int{1, 3}},
		{"a row in two halves, with dead ends next to each other", with(row, 0, 2), []int{1}, []int{0, 3}},
		{"a row without its first passage", with(row, 1, 2), []int{0}, []int{0, 3}},
		{"a row without its last passage", with(row, 0, 1), []int{2}, []int{0, 3}},
		{"a column without passages", with(column), nil, nil},
		{"a column", with(column, 0, 1, 2), nil, []int{0, 3}},
		{"a column, the first passage", with(column, 0), []int{1, 2}, []int{0, 3}},
		{"a column, the passage in the middle", with(column, 1), []int{0, 2}, []int{0, 3}},
		{"a column, the last passage, and a cell that has one only after its turn", with(column, 2), []int{1}, []int{1, 3}},
		{"a column in two halves, with dead ends next to each other", with(column, 0, 2), []int{1}, []int{0, 3}},
		{"no passage", with(small), nil, nil},
		{"cells that have their first passage before their turn", with(small, 0), []int{1, 2, 3}, nil},
		{"cells that have their first passage after their turn, in the north", with(small, 1), []int{2, 3}, []int{0, 1}},
		{"a cell that has its first passage before its turn, and the last one after it", with(small, 2), []int{0, 1, 3}, nil},
		{"cells that have their first passage after their turn, in the west", with(small, 3), []int{0, 1}, []int{0, 2}},
		{"two passages apart in rows", with(small, 0, 1), []int{2, 3}, nil},
		{"two passages apart in columns", with(small, 2, 3), []int{0, 1}, nil},
		{"a way of three cells, and one that has its first passage before its turn", with(small, 0, 2), []int{1, 3}, nil},
		{"a way of three cells, and one that has its first passage after its turn", with(small, 1, 3), []int{0, 2}, nil},
		{"a bend, of which the one end is the second way of the other", with(small, 0, 2, 3), []int{1}, nil},
		{"a bend to the south", with(small, 1, 2, 3), []int{0}, nil},
		{"all gaps open", with(small, 0, 1, 2, 3), nil, nil},
		{"four dead ends in pairs", with(wide, 0, 1, 2, 3, 5), []int{4, 6}, nil},
		{"a comb of three columns", with(wide, 0, 1, 4, 5, 6), []int{2, 3}, nil},
		{"a passage in the middle, and two cells that have none at the end", with(wide, 5), []int{1, 3, 6}, nil},
		{"two bends", bentMaze(), []int{1, 2}, nil},
		{"a loop with a tail", tailMaze(), []int{3}, nil},
		{"a loop and a passage apart", with(wide, 0, 2, 4, 5, 6), []int{1, 3}, nil},
		{"a loop and cells apart", with(wide, 0, 2, 4, 5), nil, nil},
		{"three rows in a bend", with(high, 0, 1, 2, 4, 5), []int{3, 6}, nil},
		{"the second way is the first direction, and to a cell that has had its turn", with(nine, 10), []int{5, 7, 11}, []int{1, 5}},
		{"the second way is the second direction", with(nine, 7), []int{1, 3, 8}, nil},
		{"the second way is the third direction, and the last one before", with(nine, 8), []int{1, 5, 11}, []int{1, 7}},
		{"the second way is the first direction, and the last one after it", with(nine, 11), []int{5, 8}, []int{2, 7}},
		{"none, one, two, three and four ways", everyKindMaze(), []int{4, 6, 8}, nil},
		{"four ways, and cells that have their first passage before, after and without their turn", crossMaze(), []int{1, 5, 6, 8, 11}, []int{0}},
		{"a ring around one cell", ringMaze(), nil, nil},
		{"two loops apart", twoLoops(), nil, nil},
		{"a ring of ten", ringOfTen(), nil, nil},
		{"a ring of ten and a dead end in it", ringOfTen(3, 4), []int{11}, nil},
		{"no passage in the largest grid", with(large), nil, nil},
		{"a comb, with three dead ends below another one", combMaze(), []int{15, 19, 23}, nil},
		{"row by row", rowByRow(), []int{12, 20}, nil},
		{"the last two cells, and two above them that have had their turn", with(large, 11), []int{22, 23}, []int{10, 11}},
		{"all gaps of the largest grid open", fullMaze(large), nil, nil},
	}
}

// checkBraid holds BraidMaze and IsBraid against what is expected of a maze.
func checkBraid(t *testing.T, m, want impl.Maze) {
	t.Helper()
	if got := alwaysMaze(t, "BraidMaze", impl.BraidMaze, m); got != want {
		t.Errorf("BraidMaze(%v) = %v, want %v", m, got, want)
	}
	for _, maze := range []impl.Maze{m, want} {
		if got, ends := impl.IsBraid(maze), drawnDead(maze).ends; got != (len(ends) == 0) {
			t.Errorf("IsBraid(%v) = %v, with the dead ends %v", maze, got, ends)
		}
	}
}

func TestBraidCases(t *testing.T) {
	for _, c := range braidCases() {
		t.Run(c.name, func(t *testing.T) {
			want := withGaps(c.m, c.opened...)
			checkBraid(t, c.m, want)
			checkBraid(t, want, drawnBraid(want))
			if got := impl.DeadEnds(impl.BraidMaze(c.m)); !slices.Equal(got, c.left) {
				t.Errorf("BraidMaze(%v) leaves the dead ends %v, want %v", c.m, got, c.left)
			}
			for _, gap := range c.opened {
				if isDrawnOpen(c.m, gap) {
					t.Errorf("the case opens the gap %d, which is open in %v", gap, c.m)
				}
			}
		})
	}
}

// drawnBraid counts the steps at each cell and draws one more where there is one alone, in the first direction in which the grid has a cell.
func drawnBraid(m impl.Maze) impl.Maze {
	within := gridSteps(m.Grid)
	for cell := range within {
		steps := drawnSteps(m)[cell]
		closed := slices.DeleteFunc([]int{0, 1, 2, 3}, func(direction int) bool {
			return steps[direction] != -1 || within[cell][direction] == -1
		})
		ways := slices.DeleteFunc(steps[:], func(next int) bool { return next == -1 })
		if len(ways) == 1 && len(closed) > 0 {
			m = withGaps(m, gapsBetween(m.Grid)[neighborPair{cell, within[cell][closed[0]]}])
		}
	}
	return m
}

// braidMazes holds all mazes of each small grid, and many of each large one, among them perfect ones, connected ones with few and with many loops, and such with one gap changed.
func braidMazes(check func(m impl.Maze)) {
	for _, g := range allGrids() {
		for _, m := range countMazes(g) {
			check(m)
		}
	}
}

// isNarrow reports whether a grid is a row or a column, where the cells at the ends have one neighbor or none.
func isNarrow(g impl.Grid) bool {
	return g.Wide == 1 || g.High == 1
}

func TestBraidAsDrawn(t *testing.T) {
	braidMazes(func(m impl.Maze) { checkBraid(t, m, drawnBraid(m)) })
}

// TestNoDeadEndIsLeft is promise 18: after every dead end got a second way, there is none left. It holds for what is connected and no row or column. Elsewhere, those are left that have a single neighbor, and those that had no passage when their turn came.
func TestNoDeadEndIsLeft(t *testing.T) {
	connected, perfect, without := 0, 0, 0
	braidMazes(func(m impl.Maze) {
		braid := alwaysMaze(t, "BraidMaze", impl.BraidMaze, m)
		if braid.Grid != m.Grid || !impl.MazeOk(braid) || braid.Open&m.Open != m.Open {
			t.Errorf("BraidMaze(%v) = %v, which has not all passages of the maze", m, braid)
		}
		ends := impl.DeadEnds(braid)
		if impl.IsBraid(braid) != (len(ends) == 0) || !slices.Equal(ends, drawnDead(braid).ends) {
			t.Errorf("BraidMaze(%v) = %v, with the dead ends %v, but IsBraid is %v", m, braid, ends, impl.IsBraid(braid))
		}
		if impl.IsBraid(m) && braid != m {
			t.Errorf("BraidMaze(%v) = %v, but there was no dead end", m, braid)
		}
		if impl.IsConnected(m) && !isNarrow(m.Grid) {
			connected++
			if len(ends) > 0 {
				t.Errorf("BraidMaze(%v) = %v, with the dead ends %v, want none", m, braid, ends)
			}
			if impl.IsPerfect(m) {
				perfect++
			}
		}
		for _, cell := range ends {
			if len(impl.WaysFrom(m, cell)) == 0 {
				without++
			} else if neighborsOf(m.Grid, cell) > 1 {
				t.Errorf("BraidMaze(%v) = %v, in which %d is a dead end, as it was before", m, braid, cell)
			}
		}
	})
	if perfect < 600 || connected < 4*perfect || without < 600 {
		t.Errorf("%d connected mazes, %d of them perfect, and %d dead ends that had no passage before, want many of each", connected, perfect, without)
	}
}

// neighborsOf counts the neighbors of a cell in its grid.
func neighborsOf(g impl.Grid, cell int) int {
	n := 0
	for _, next := range gridSteps(g)[cell] {
		if next != -1 {
			n++
		}
	}
	return n
}

// TestEachOpenedGapEndsADeadEnd: each gap is opened for one of its cells, which had at most one way before, and no two gaps are opened for the same cell. So there are at most as many of them as such cells.
func TestEachOpenedGapEndsADeadEnd(t *testing.T) {
	braidMazes(func(m impl.Maze) {
		braid := impl.BraidMaze(m)
		few := 0
		for cell := range m.Grid.Wide * m.Grid.High {
			if len(impl.WaysFrom(m, cell)) < 2 {
				few++
			}
		}
		opened := 0
		for gap, ends := range gapsInOrder(m.Grid) {
			if !isDrawnOpen(braid, gap) || isDrawnOpen(m, gap) {
				continue
			}
			opened++
			if len(impl.WaysFrom(m, ends.first)) > 1 && len(impl.WaysFrom(m, ends.second)) > 1 {
				t.Errorf("BraidMaze(%v) = %v, in which the gap %d is open, though both its cells had two ways", m, braid, gap)
			}
		}
		if opened > few {
			t.Errorf("BraidMaze(%v) = %v, in which %d gaps were opened for %d cells", m, braid, opened, few)
		}
	})
}

// TestBraidInRowsAndColumns: in a row or a column, the cell at an end has a single neighbor, so no maze with a passage to it is without dead ends.
func TestBraidInRowsAndColumns(t *testing.T) {
	for _, g := range allGrids() {
		if !isNarrow(g) {
			continue
		}
		for _, m := range someMazes(g) {
			checkBraid(t, m, drawnBraid(m))
			if got := impl.IsBraid(m); got != (m.Open == 0) {
				t.Errorf("IsBraid(%v) = %v", m, got)
			}
			if got := impl.BraidMaze(m); (got.Open == 0) != (m.Open == 0) || impl.IsBraid(got) != (m.Open == 0) {
				t.Errorf("BraidMaze(%v) = %v, and IsBraid is %v", m, got, impl.IsBraid(got))
			}
		}
	}
}

// cutCase is a maze and the gaps that CutLoops closes.
type cutCase struct {
	name   string
	m      impl.Maze
	closed []int
}

func cutCases() []cutCase {
	small, wide, nine, large := impl.Grid{Wide: 2, High: 2}, impl.Grid{Wide: 3, High: 2}, impl.Grid{Wide: 3, High: 3}, impl.Grid{Wide: 4, High: 4}
	return []cutCase{
		{"one cell", impl.Maze{Grid: impl.Grid{Wide: 1, High: 1}}, nil},
		{"two cells and a wall", impl.Maze{Grid: impl.Grid{Wide: 1, High: 2}}, nil},
		{"two cells and a passage", impl.Maze{Grid: impl.Grid{Wide: 2, High: 1}, Open: 1}, nil},
		{"a row", fullMaze(impl.Grid{Wide: 4, High: 1}), nil},
		{"a column", fullMaze(impl.Grid{Wide: 1, High: 4}), nil},
		{"no passage", impl.Maze{Grid: large}, nil},
		{"a bend", impl.Maze{Grid: small, Open: 13}, nil},
		{"a loop through cell 0, whose passages are bridges once the first one is closed", fullMaze(small), []int{0}},
		{"two bends", bentMaze(), nil},
		{"a loop through cell 0 with a tail", tailMaze(), []int{0}},
		{"a loop and two more cells", impl.Maze{Grid: wide, Open: bitsOf(0, 2, 4, 5)}, []int{0}},
		{"a loop and a passage to cell 0", impl.Maze{Grid: wide, Open: bitsOf(0, 1, 3, 5, 6)}, []int{1}},
		{"a loop in a part that is not connected to cell 0", impl.Maze{Grid: wide, Open: bitsOf(1, 3, 5, 6)}, []int{1}},
		{"a loop in a part that is not connected to the one of cell 0", impl.Maze{Grid: wide, Open: bitsOf(1, 3, 4, 5, 6)}, []int{1}},
		{"two loops with a common passage", fullMaze(wide), []int{0, 1}},
		{"a loop around two corners", impl.Maze{Grid: wide, Open: bitsOf(0, 1, 2, 3, 4, 6)}, []int{0}},
		{"two loops apart", twoLoops(), []int{0, 2}},
		{"two loops and a bridge", withGaps(twoLoops(), 1), []int{0, 2}},
		{"two loops and a bridge in the south", withGaps(twoLoops(), 4), []int{0, 2}},
		{"three loops side by side", fullMaze(impl.Grid{Wide: 4, High: 2}), []int{0, 1, 2}},
		{"three loops one below the other", fullMaze(impl.Grid{Wide: 2, High: 4}), []int{0, 1, 2}},
		{"two loops with a common cell", impl.Maze{Grid: nine, Open: bitsOf(0, 2, 6, 7, 3, 5, 10, 11)}, []int{0, 3}},
		{"a ring around one cell", ringMaze(), []int{0}},
		{"a ring with a way across it", withGaps(ringMaze(), 2, 3), []int{0, 2}},
		{"a ring with a way down through it", withGaps(ringMaze(), 7, 10), []int{0, 1}},
		{"a ring and a dead end in it", withGaps(ringMaze(), 10), []int{0}},
		{"four loops with common passages", fullMaze(nine), []int{0, 1, 2, 3}},
		{"a ring of ten", ringOfTen(), []int{0}},
		{"a ring of ten with a way across it", ringOfTen(3, 4, 5), []int{0, 3}},
		{"a ring of ten with ways down through it", ringOfTen(10, 14), []int{0, 1}},
		{"row by row", rowByRow(), nil},
		{"row by row and a loop through the greatest gap", withGaps(rowByRow(), 22), []int{8}},
		{"row by row and a loop through cell 0", withGaps(rowByRow(), 12), []int{0}},
		{"a comb, closed by the gap between its last two teeth", withGaps(combMaze(), 23), []int{6}},
		{"nine loops with common passages", fullMaze(large), []int{0, 1, 2, 3, 4, 5, 6, 7, 8}},
	}
}

// checkCut holds CutLoops against the maze that is expected, which it leaves as it is.
func checkCut(t *testing.T, m, want impl.Maze) {
	t.Helper()
	if got := alwaysMaze(t, "CutLoops", impl.CutLoops, m); got != want {
		t.Errorf("CutLoops(%v) = %v, want %v", m, got, want)
	}
	if got := impl.CutLoops(want); got != want {
		t.Errorf("CutLoops(%v) = %v, want it unchanged", want, got)
	}
}

func TestCutCases(t *testing.T) {
	for _, c := range cutCases() {
		t.Run(c.name, func(t *testing.T) {
			checkCut(t, c.m, withoutGaps(c.m, c.closed...))
			if got, want := impl.CountLoops(c.m), len(c.closed); got != want {
				t.Errorf("CountLoops(%v) = %d, want as many as gaps are closed: %d", c.m, got, want)
			}
		})
	}
}

// drawnCut begins without passages and opens those of the maze again, from the greatest gap down to the first one, each if it joins what is painted differently: just these are bridges when all smaller ones that are none are closed.
func drawnCut(m impl.Maze) impl.Maze {
	var order []int
	for gap := range gapsInOrder(m.Grid) {
		if isDrawnOpen(m, gap) {
			order = append([]int{gap}, order...)
		}
	}
	return drawnKruskal(m.Grid, order)
}

// TestCutLeavesNoLoop: CutLoops leaves no loop, opens nothing, and leaves all parts as they were, so one loop goes with each gap that is closed. The greatest passage stays, as it is a bridge once all loops through it are cut.
func TestCutLeavesNoLoop(t *testing.T) {
	whole, apart := 0, 0
	braidMazes(func(m impl.Maze) {
		cut := impl.CutLoops(m)
		checkCut(t, m, drawnCut(m))
		if cut.Grid != m.Grid || !impl.MazeOk(cut) || cut.Open&^m.Open != 0 {
			t.Errorf("CutLoops(%v) = %v, which has other passages than the maze", m, cut)
		}
		if got := impl.CountLoops(cut); got != 0 {
			t.Errorf("CutLoops(%v) = %v, with %d loops, want none", m, cut, got)
		}
		if got, want := impl.CountParts(cut), impl.CountParts(m); got != want || !slices.Equal(paint(cut), paint(m)) {
			t.Errorf("CutLoops(%v) = %v, with %d parts, want the same %d parts as before", m, cut, got, want)
		}
		if got, want := passagesIn(m)-passagesIn(cut), impl.CountLoops(m); got != want {
			t.Errorf("CutLoops(%v) = %v, in which %d gaps were closed, want one for each of %d loops", m, cut, got, want)
		}
		for gap := range gapsInOrder(m.Grid) {
			if m.Open >= 1<<gap && m.Open < 2<<gap && !isDrawnOpen(cut, gap) {
				t.Errorf("CutLoops(%v) = %v, in which the greatest passage %d is closed", m, cut, gap)
			}
		}
		if impl.IsConnected(m) != impl.IsPerfect(cut) {
			t.Errorf("CutLoops(%v) = %v, which is perfect is %v", m, cut, impl.IsPerfect(cut))
		}
		if cut != m && impl.IsPerfect(cut) {
			whole++
		} else if cut != m {
			apart++
		}
	})
	if whole < 1000 || apart < 1000 {
		t.Errorf("loops were cut in %d connected mazes and in %d other ones, want many of each", whole, apart)
	}
}

// TestCutWhatWasBraided: a perfect maze without dead ends loses its loops again, and is perfect, if not always the same one as before.
func TestCutWhatWasBraided(t *testing.T) {
	same, other := 0, 0
	for _, g := range allGrids() {
		for _, m := range perfectMazes(g) {
			cut := impl.CutLoops(impl.BraidMaze(m))
			if !impl.IsPerfect(cut) || !hasOneWay(cut) {
				t.Errorf("CutLoops(BraidMaze(%v)) = %v, which is not perfect", m, cut)
			}
			if cut == m {
				same++
			} else {
				other++
			}
		}
	}
	if same == 0 || other == 0 {
		t.Errorf("%d perfect mazes came back and %d did not", same, other)
	}
}

// twoWaysCase is a maze and its groups of cells of which each two have two ways between them. Between other cells, there are none or one alone.
type twoWaysCase struct {
	name   string
	m      impl.Maze
	groups [][]int
}

func twoWaysCases() []twoWaysCase {
	small, wide, nine, large := impl.Grid{Wide: 2, High: 2}, impl.Grid{Wide: 3, High: 2}, impl.Grid{Wide: 3, High: 3}, impl.Grid{Wide: 4, High: 4}
	return []twoWaysCase{
		{"one cell", impl.Maze{Grid: impl.Grid{Wide: 1, High: 1}}, nil},
		{"two cells and a wall", impl.Maze{Grid: impl.Grid{Wide: 2, High: 1}}, nil},
		{"neighbors between which the only passage is a bridge", impl.Maze{Grid: impl.Grid{Wide: 2, High: 1}, Open: 1}, nil},
		{"a row", fullMaze(impl.Grid{Wide: 4, High: 1}), nil},
		{"a column", fullMaze(impl.Grid{Wide: 1, High: 4}), nil},
		{"no passage", impl.Maze{Grid: small}, nil},
		{"a bend", impl.Maze{Grid: small, Open: 13}, nil},
		{"a loop", fullMaze(small), [][]int{{0, 1, 2, 3}}},
		{"two bends", bentMaze(), nil},
		{"a loop with a tail", tailMaze(), [][]int{{0, 1, 3, 4}}},
		{"a loop and a passage apart", impl.Maze{Grid: wide, Open: bitsOf(1, 3, 4, 5, 6)}, [][]int{{1, 2, 4, 5}}},
		{"two loops with a common passage", fullMaze(wide), [][]int{{0, 1, 2, 3, 4, 5}}},
		{"a loop around two corners", impl.Maze{Grid: wide, Open: bitsOf(0, 1, 2, 3, 4, 6)}, [][]int{{0, 1, 2, 3, 4, 5}}},
		{"two loops apart", twoLoops(), [][]int{{0, 1, 4, 5}, {2, 3, 6, 7}}},
		{"two loops and a bridge", withGaps(twoLoops(), 4), [][]int{{0, 1, 4, 5}, {2, 3, 6, 7}}},
		{"two loops and a loop between them", withGaps(twoLoops(), 1, 4), [][]int{{0, 1, 2, 3, 4, 5, 6, 7}}},
		{"two ways that have a cell in common, though no passage", impl.Maze{Grid: nine, Open: bitsOf(0, 2, 6, 7, 3, 5, 10, 11)}, [][]int{{0, 1, 3, 4, 5, 7, 8}}},
		{"two ways that have two cells in common, though no passage", impl.Maze{Grid: large, Open: bitsOf(0, 3, 12, 13, 4, 7, 17, 18, 8, 11, 22, 23)}, [][]int{{0, 1, 4, 5, 6, 9, 10, 11, 14, 15}}},
		{"two loops and a way from the one to the other", impl.Maze{Grid: large, Open: bitsOf(0, 3, 12, 13, 4, 18, 8, 11, 22, 23)}, [][]int{{0, 1, 4, 5}, {10, 11, 14, 15}}},
		{"four ways out of one cell", crossMaze(), nil},
		{"a ring around one cell", ringMaze(), [][]int{{0, 1, 2, 3, 5, 6, 7, 8}}},
		{"a ring and a dead end in it", withGaps(ringMaze(), 7), [][]int{{0, 1, 2, 3, 5, 6, 7, 8}}},
		{"a ring with a way across it", withGaps(ringMaze(), 2, 3), [][]int{{0, 1, 2, 3, 4, 5, 6, 7, 8}}},
		{"a ring of ten", ringOfTen(), [][]int{{0, 1, 2, 3, 4, 7, 8, 9, 10, 11}}},
		{"row by row", rowByRow(), nil},
		{"row by row and a loop around eight cells", withGaps(rowByRow(), 12), [][]int{{0, 1, 2, 3, 4, 5, 6, 7}}},
		{"all gaps of the largest grid open", fullMaze(large), [][]int{{0, 1, 2, 3, 4, 5, 6, 7, 8, 9, 10, 11, 12, 13, 14, 15}}},
	}
}

// checkTwoWays asks for two ways between a cell and another one, in both directions.
func checkTwoWays(t *testing.T, m impl.Maze, a, b int, want bool) {
	t.Helper()
	for _, pair := range []neighborPair{{a, b}, {b, a}} {
		if got := impl.TwoWays(m, pair.first, pair.second); got != want {
			t.Errorf("TwoWays(%v, %d, %d) = %v, want %v", m, pair.first, pair.second, got, want)
		}
	}
}

func TestTwoWaysCases(t *testing.T) {
	for _, c := range twoWaysCases() {
		t.Run(c.name, func(t *testing.T) {
			groups := map[int]int{}
			for i, group := range c.groups {
				for _, cell := range group {
					groups[cell] = i + 1
				}
			}
			n := c.m.Grid.Wide * c.m.Grid.High
			// A number that is no cell is in no group.
			for a := -2; a < n+2; a++ {
				for b := -2; b < n+2; b++ {
					want := a != b && groups[a] > 0 && groups[a] == groups[b]
					for range timesAsked {
						checkTwoWays(t, c.m, a, b, want)
					}
				}
			}
		})
	}
}

// passageWays returns, for each cell, the ways to it from another one that pass no cell twice, each one as the bits of its gaps.
func passageWays(m impl.Maze, start int) [][]int {
	steps, gaps := drawnSteps(m), gapsBetween(m.Grid)
	ways := make([][]int, len(steps))
	passed := make([]bool, len(steps))
	var walk func(cell, way int)
	walk = func(cell, way int) {
		ways[cell] = append(ways[cell], way)
		passed[cell] = true
		for _, next := range steps[cell] {
			if next >= 0 && !passed[next] {
				walk(next, way+bitsOf(gaps[neighborPair{cell, next}]))
			}
		}
		passed[cell] = false
	}
	walk(start, 0)
	return ways
}

// hasApart reports whether two of some ways have no passage in common.
func hasApart(ways []int) bool {
	for i, way := range ways {
		for _, other := range ways[:i] {
			if way&other == 0 {
				return true
			}
		}
	}
	return false
}

// TestTwoWaysApart: there are still ways whatever passage is closed, just if there are two ways without a common passage.
func TestTwoWaysApart(t *testing.T) {
	for _, g := range allGrids() {
		if mazeCount(g) > 4096 {
			continue
		}
		for _, m := range someMazes(g) {
			for a := range g.Wide * g.High {
				for b, ways := range passageWays(m, a)[:a] {
					checkTwoWays(t, m, a, b, hasApart(ways))
				}
				checkTwoWays(t, m, a, a, false)
			}
		}
	}
}

// TestTwoWaysWithoutBridges: two ways are there between cells that are still in one part when all bridges are closed. Of the large grids, each maze is asked for the ways from one cell.
func TestTwoWaysWithoutBridges(t *testing.T) {
	r := rand.New(rand.NewPCG(18, 1))
	for _, g := range allGrids() {
		if mazeCount(g) <= 4096 {
			continue
		}
		there, bridged, apart := 0, 0, 0
		for i, m := range countMazes(g) {
			// The list is long, and much alike.
			if i%4 != 0 {
				continue
			}
			colors, parts := paint(withoutGaps(m, drawnCase(m).bridges...)), paint(m)
			a := r.IntN(len(colors))
			for b := range colors {
				checkTwoWays(t, m, a, b, a != b && colors[a] == colors[b])
				switch {
				case parts[a] != parts[b]:
					apart++
				case colors[a] != colors[b]:
					bridged++
				case a != b:
					there++
				}
			}
		}
		if min(there, bridged, apart) < 500 {
			t.Errorf("%v: two ways %d times, a bridge between the cells %d times, and no way %d times, want many of each", g, there, bridged, apart)
		}
	}
}

// TestTwoWaysInSpecialMazes: no two cells of a perfect maze have two ways between them, nor have those of a maze whose loops are cut; where all gaps are open, all have.
func TestTwoWaysInSpecialMazes(t *testing.T) {
	r := rand.New(rand.NewPCG(18, 2))
	for _, g := range allGrids() {
		n := g.Wide * g.High
		perfect := perfectMazes(g)
		for range 20 {
			a, b := r.IntN(n), r.IntN(n)
			checkTwoWays(t, perfect[r.IntN(len(perfect))], a, b, false)
			checkTwoWays(t, impl.CutLoops(impl.Maze{Grid: g, Open: r.IntN(mazeCount(g))}), a, b, false)
			checkTwoWays(t, fullMaze(g), a, b, a != b && !isNarrow(g))
		}
	}
}

// TestTwoWaysOfNoCell has numbers that are no cells, as either cell and as both.
func TestTwoWaysOfNoCell(t *testing.T) {
	for _, g := range allGrids() {
		n := g.Wide * g.High
		for _, m := range []impl.Maze{{Grid: g}, drawnKruskal(g, shuffledOrder(g, 1)), fullMaze(g)} {
			for _, bad := range append([]int{-n, -2, -1, n, n + 1, n + g.Wide, 2 * n, 100}, extremeInts...) {
				for cell := range n {
					checkTwoWays(t, m, cell, bad, false)
				}
				checkTwoWays(t, m, bad, bad, false)
				checkTwoWays(t, m, bad, -1, false)
				checkTwoWays(t, m, bad, n, false)
			}
		}
	}
}

func TestBraidOfBadMazes(t *testing.T) {
	for _, m := range badMazes() {
		if got := impl.BraidMaze(m); got != m {
			t.Errorf("BraidMaze(%v) = %v, want it unchanged", m, got)
		}
		if got := impl.CutLoops(m); got != m {
			t.Errorf("CutLoops(%v) = %v, want it unchanged", m, got)
		}
		if impl.IsBraid(m) {
			t.Errorf("IsBraid(%v) = true, want false", m)
		}
		for _, a := range []int{0, 1, 3, 5, 15, 16, -1} {
			for _, b := range []int{0, 1, 3, 5, 15, 16, -1} {
				checkTwoWays(t, m, a, b, false)
			}
		}
		for _, a := range extremeInts {
			checkTwoWays(t, m, a, 0, false)
		}
	}
}

// TestBraidKeepsNoState asks for other mazes in between.
func TestBraidKeepsNoState(t *testing.T) {
	r := rand.New(rand.NewPCG(18, 3))
	for _, g := range allGrids() {
		for range 20 {
			m := impl.Maze{Grid: g, Open: r.IntN(mazeCount(g))}
			a, b := r.IntN(g.Wide*g.High), r.IntN(g.Wide*g.High)
			braid, isBraid, cut, two := impl.BraidMaze(m), impl.IsBraid(m), impl.CutLoops(m), impl.TwoWays(m, a, b)
			impl.BraidMaze(combMaze())
			impl.IsBraid(tailMaze())
			impl.CutLoops(fullMaze(g))
			impl.TwoWays(twoLoops(), b, 1)
			if impl.BraidMaze(m) != braid || impl.IsBraid(m) != isBraid || impl.CutLoops(m) != cut || impl.TwoWays(m, a, b) != two {
				t.Errorf("%v: not the same as before, after other mazes", m)
			}
		}
	}
}
