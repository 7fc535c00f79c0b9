package tests

import (
	"slices"
	"testing"

	"loop.example/g00990/impl"
)

// combMaze is 4 wide and 4 high; all rows are open, and the cells in the first column are connected.
func combMaze() impl.Maze {
	return impl.Maze{Grid: impl.Grid{Wide: 4, High: 4}, Open: 4095 + 1<<12 + 1<<16 + 1<<20}
}

// everyKindMaze is 3 wide and 3 high and has cells with none, one, two, three and four ways.
//
//	#######
//	#0 1 2#
//	### ###
//	#3 4 5#
//	# # ###
//	#6#7#8#
//	#######
func everyKindMaze() impl.Maze {
	return impl.Maze{Grid: impl.Grid{Wide: 3, High: 3}, Open: 1 + 2 + 4 + 8 + 128 + 512 + 1024}
}

// tailMaze is 3 wide and 2 high: a loop through the cells 0, 1, 4 and 3, and a way from 1 through 2 to 5.
func tailMaze() impl.Maze {
	return impl.Maze{Grid: impl.Grid{Wide: 3, High: 2}, Open: 1 + 2 + 4 + 16 + 32 + 64}
}

// deadCase is a maze, its dead ends, its junctions, the number of cells that are passed straight on, and the BranchSum.
type deadCase struct {
	name      string
	m         impl.Maze
	ends      []int
	junctions []int
	straight  int
	sum       int
}

func deadCases() []deadCase {
	one, row, column, small := impl.Grid{Wide: 1, High: 1}, impl.Grid{Wide: 4, High: 1}, impl.Grid{Wide: 1, High: 4}, impl.Grid{Wide: 2, High: 2}
	wide, nine, large := impl.Grid{Wide: 3, High: 2}, impl.Grid{Wide: 3, High: 3}, impl.Grid{Wide: 4, High: 4}
	return []deadCase{
		{"one cell", impl.Maze{Grid: one}, nil, nil, 0, 0},
		{"two cells and a wall", impl.Maze{Grid: impl.Grid{Wide: 2, High: 1}}, nil, nil, 0, 0},
		{"two cells and a passage", impl.Maze{Grid: impl.Grid{Wide: 2, High: 1}, Open: 1}, []int{0, 1}, nil, 0, -2},
		{"two cells and a passage to the south", impl.Maze{Grid: impl.Grid{Wide: 1, High: 2}, Open: 1}, []int{0, 1}, nil, 0, -2},
		{"a row", impl.Maze{Grid: row, Open: 7}, []int{0, 3}, nil, 2, -2},
		{"a row in two halves", impl.Maze{Grid: row, Open: 5}, []int{0, 1, 2, 3}, nil, 0, -4},
		{"a row and one cell apart", impl.Maze{Grid: row, Open: 6}, []int{1, 3}, nil, 1, -2},
		{"a column", impl.Maze{Grid: column, Open: 7}, []int{0, 3}, nil, 2, -2},
		{"a column and one cell apart", impl.Maze{Grid: column, Open: 3}, []int{0, 2}, nil, 1, -2},
		{"a way with bends alone", impl.Maze{Grid: small, Open: 13}, []int{2, 3}, nil, 0, -2},
		{"a way through all cells, bend by bend and straight on", rowByRow(), []int{0, 12}, nil, 8, -2},
		{"a loop of bends", impl.FullMaze(small), nil, nil, 0, 0},
		{"a loop with bends and straight on", ringMaze(), nil, nil, 4, 0},
		{"no passage", impl.Maze{Grid: large}, nil, nil, 0, 0},
		{"two parts with a bend each", bentMaze(), []int{1, 2, 3, 4}, nil, 0, -4},
		{"four rows", impl.Maze{Grid: large, Open: 4095}, []int{0, 3, 4, 7, 8, 11, 12, 15}, nil, 8, -8},
		{"a comb", combMaze(), []int{3, 7, 11, 15}, []int{4, 8}, 8, -2},
		{"three ways", impl.Maze{Grid: wide, Open: 1 + 2 + 32}, []int{0, 2, 4}, []int{1}, 0, -2},
		{"four ways", crossMaze(), []int{1, 3, 5, 7}, []int{4}, 0, -2},
		{"none, one, two, three and four ways", everyKindMaze(), []int{0, 2, 5, 6, 7}, []int{1, 4}, 0, -2},
		{"a loop with a tail", tailMaze(), []int{5}, []int{1}, 0, 0},
		{"a loop and a passage apart", impl.Maze{Grid: impl.Grid{Wide: 3, High: 2}, Open: 1 + 4 + 16 + 32 + 64}, []int{2, 5}, nil, 0, -2},
		{"two loops side by side", impl.FullMaze(wide), nil, []int{1, 4}, 0, 2},
		{"two loops and a bridge", impl.Maze{Grid: impl.Grid{Wide: 4, High: 2}, Open: 1 + 2 + 4 + 8 + 32 + 64 + 128 + 256 + 512}, nil, []int{1, 2}, 0, 2},
		{"all gaps of nine cells open", impl.FullMaze(nine), nil, []int{1, 3, 4, 5, 7}, 0, 6},
		{"all gaps of the largest grid open", impl.FullMaze(large), nil, []int{1, 2, 4, 5, 6, 7, 8, 9, 10, 11, 13, 14}, 0, 16},
	}
}

// checkDead holds each function that looks at a maze against what is expected of it.
func checkDead(t *testing.T, c deadCase) {
	t.Helper()
	if got := impl.DeadEnds(c.m); !slices.Equal(got, c.ends) {
		t.Errorf("DeadEnds(%v) = %v, want %v", c.m, got, c.ends)
	}
	if got := impl.Junctions(c.m); !slices.Equal(got, c.junctions) {
		t.Errorf("Junctions(%v) = %v, want %v", c.m, got, c.junctions)
	}
	if got := impl.CountStraight(c.m); got != c.straight {
		t.Errorf("CountStraight(%v) = %d, want %d", c.m, got, c.straight)
	}
	if got := impl.BranchSum(c.m); got != c.sum {
		t.Errorf("BranchSum(%v) = %d, want %d", c.m, got, c.sum)
	}
}

func TestDeadCases(t *testing.T) {
	for _, c := range deadCases() {
		t.Run(c.name, func(t *testing.T) { checkDead(t, c) })
	}
}

// TestTwoWays looks at the cell in the middle of nine cells with each pair of ways: only north and south, and east and west, lead straight on.
func TestTwoWays(t *testing.T) {
	gaps := [4]int{7, 3, 10, 2}
	for first := range 4 {
		for second := range first {
			m := impl.Maze{Grid: impl.Grid{Wide: 3, High: 3}}
			m = withGap(withGap(m, gaps[first], true), gaps[second], true)
			want := 0
			if first-second == 2 {
				want = 1
			}
			if got := impl.CountStraight(m); got != want {
				t.Errorf("CountStraight(%v) = %d, want %d", m, got, want)
			}
			if got := impl.DeadEnds(m); len(got) != 2 || slices.Contains(got, 4) || len(impl.Junctions(m)) != 0 || impl.BranchSum(m) != -2 {
				t.Errorf("%v: DeadEnds is %v, Junctions %v and BranchSum %d", m, got, impl.Junctions(m), impl.BranchSum(m))
			}
		}
	}
}

// drawnDead finds what is expected of a maze by looking at its steps.
func drawnDead(m impl.Maze) deadCase {
	c := deadCase{m: m}
	for cell, steps := range drawnSteps(m) {
		open := [4]bool{}
		ways := 0
		for direction, next := range steps {
			if next >= 0 {
				open[direction] = true
				ways++
			}
		}
		switch ways {
		case 1:
			c.ends = append(c.ends, cell)
			c.sum--
		case 3:
			c.junctions = append(c.junctions, cell)
			c.sum++
		case 4:
			c.junctions = append(c.junctions, cell)
			c.sum += 2
		}
		if open == [4]bool{true, false, true, false} || open == [4]bool{false, true, false, true} {
			c.straight++
		}
	}
	return c
}

func TestDeadAsDrawn(t *testing.T) {
	for _, g := range allGrids() {
		for _, m := range append(someMazes(g), almostPerfectMazes(g)...) {
			checkDead(t, drawnDead(m))
		}
	}
}

// perfectMazes holds all perfect mazes of a small grid, and some of a large one.
func perfectMazes(g impl.Grid) []impl.Maze {
	var list []impl.Maze
	if mazeCount(g) <= 4096 {
		for _, m := range someMazes(g) {
			if hasOneWay(m) {
				list = append(list, m)
			}
		}
		return list
	}
	for k := range 200 {
		list = append(list, drawnKruskal(g, shuffledOrder(g, k)))
	}
	return list
}

// TestDeadEndsAndJunctionsBalance is promise 7: in a perfect maze, dead ends and junctions balance. Each junction has as many dead ends as ways beyond two, and two dead ends are there in any case, unless there is one cell alone.
func TestDeadEndsAndJunctionsBalance(t *testing.T) {
	for _, g := range allGrids() {
		ends, sum := 2, -2
		if g.Wide*g.High == 1 {
			ends, sum = 0, 0
		}
		for _, m := range perfectMazes(g) {
			want := ends
			for _, cell := range impl.Junctions(m) {
				want += len(impl.WaysFrom(m, cell)) - 2
			}
			if got := impl.DeadEnds(m); len(got) != want {
				t.Errorf("the perfect maze %v has the dead ends %v and the junctions %v, want %d dead ends", m, got, impl.Junctions(m), want)
			}
			if got := impl.BranchSum(m); got != sum {
				t.Errorf("BranchSum of the perfect maze %v = %d, want %d", m, got, sum)
			}
		}
	}
}

// TestBranchSumCountsLoopsAndParts: each part with a passage takes 2 off, and each loop adds 2.
func TestBranchSumCountsLoopsAndParts(t *testing.T) {
	for _, g := range allGrids() {
		for _, m := range append(someMazes(g), almostPerfectMazes(g)...) {
			parts := impl.CountParts(m)
			for cell := range g.Wide * g.High {
				if len(impl.WaysFrom(m, cell)) == 0 {
					parts--
				}
			}
			if got, want := impl.BranchSum(m), 2*impl.CountLoops(m)-2*parts; got != want {
				t.Errorf("BranchSum(%v) = %d, but there are %d loops and %d parts with a passage", m, got, impl.CountLoops(m), parts)
			}
		}
	}
}

// TestWayWithoutJunctions: where one way leads through some cells, bent or not, just its ends are dead ends, and no cell is a junction.
func TestWayWithoutJunctions(t *testing.T) {
	for _, g := range allGrids() {
		if g.Wide*g.High == 1 {
			continue
		}
		for _, tree := range perfectMazes(g) {
			a := impl.FarthestFrom(tree, 0)
			b := impl.FarthestFrom(tree, a)
			way, _ := impl.WayBetween(tree, a, b)
			m := impl.Maze{Grid: g}
			cells := impl.CellsOn(tree, a, way)
			for i, direction := range way {
				m = withGap(m, impl.GapAt(g, cells[i], direction), true)
			}
			straight := 0
			for i := 1; i < len(way); i++ {
				if way[i] == way[i-1] {
					straight++
				}
			}
			checkDead(t, deadCase{m: m, ends: []int{min(a, b), max(a, b)}, straight: straight, sum: -2})
			checkFill(t, m, []int{a, b}, m.Open)
			checkFill(t, m, []int{a}, 0)
			checkFill(t, m, []int{b}, 0)
			checkFill(t, m, nil, 0)
		}
	}
}

// checkFill holds FillDeadEnds against the Open that is expected, and fills the result once more.
func checkFill(t *testing.T, m impl.Maze, keep []int, open int) {
	t.Helper()
	want := impl.Maze{Grid: m.Grid, Open: open}
	if got := impl.FillDeadEnds(m, keep); got != want {
		t.Errorf("FillDeadEnds(%v, %v) = %v, want %v", m, keep, got, want)
	}
	if got := impl.FillDeadEnds(want, keep); got != want {
		t.Errorf("FillDeadEnds(%v, %v) = %v, want it unchanged", want, keep, got)
	}
}

func TestFillDeadEnds(t *testing.T) {
	small := impl.Maze{Grid: impl.Grid{Wide: 2, High: 2}, Open: 13}
	row := impl.Maze{Grid: impl.Grid{Wide: 4, High: 1}, Open: 7}
	halves := impl.Maze{Grid: impl.Grid{Wide: 4, High: 1}, Open: 5}
	bridge := impl.Maze{Grid: impl.Grid{Wide: 4, High: 2}, Open: 1 + 2 + 4 + 8 + 32 + 64 + 128 + 256 + 512}
	cases := []struct {
		name string
		m    impl.Maze
		keep []int
		open int
	}{
		{"one cell", impl.Maze{Grid: impl.Grid{Wide: 1, High: 1}}, nil, 0},
		{"one cell that is kept", impl.Maze{Grid: impl.Grid{Wide: 1, High: 1}}, []int{0}, 0},
		{"no passage", impl.Maze{Grid: impl.Grid{Wide: 4, High: 4}}, []int{5}, 0},
		{"two cells", impl.Maze{Grid: impl.Grid{Wide: 1, High: 2}, Open: 1}, nil, 0},
		{"two cells, the first one kept", impl.Maze{Grid: impl.Grid{Wide: 1, High: 2}, Open: 1}, []int{0}, 0},
		{"two cells, the second one kept", impl.Maze{Grid: impl.Grid{Wide: 1, High: 2}, Open: 1}, []int{1}, 0},
		{"two cells, both kept", impl.Maze{Grid: impl.Grid{Wide: 1, High: 2}, Open: 1}, []int{0, 1}, 1},
		{"no list", small, nil, 0},
		{"an empty list", small, []int{}, 0},
		{"every cell", small, []int{0, 1, 2, 3}, 13},
		{"every cell in another order", small, []int{3, 0, 2, 1}, 13},
		{"both ends", small, []int{2, 3}, 13},
		{"both ends, the last one first", small, []int{3, 2}, 13},
		{"one end", small, []int{2}, 0},
		{"the other end", small, []int{3}, 0},
		{"a cell on the way", small, []int{0}, 0},
		{"an end and a cell on the way", small, []int{2, 0}, 4},
		{"an end and a cell farther on the way", small, []int{2, 1}, 1 + 4},
		{"the cells between the ends", small, []int{0, 1}, 1},
		{"a cell named twice", small, []int{2, 2}, 0},
		{"two cells named twice", small, []int{2, 0, 2, 0}, 4},
		{"cells named again and again", small, slices.Repeat([]int{2, 0}, 1000), 4},
		{"a row", row, nil, 0},
		{"a row, an end kept", row, []int{3}, 0},
		{"a row, both ends kept", row, []int{0, 3}, 7},
		{"the middle of a row", row, []int{2, 1}, 2},
		{"the end of a row", row, []int{1, 3}, 6},
		{"two halves", halves, nil, 0},
		{"two halves, a cell of each kept", halves, []int{1, 2}, 0},
		{"two halves, one kept", halves, []int{2, 3}, 4},
		{"two parts", bentMaze(), []int{}, 0},
		{"two parts, one with both ends kept", bentMaze(), []int{3, 1}, 1 + 16},
		{"two parts, two cells of each kept", bentMaze(), []int{0, 3, 2, 4}, 8 + 16 + 64},
		{"four ways", crossMaze(), nil, 0},
		{"four ways, the junction kept", crossMaze(), []int{4}, 0},
		{"four ways, two ends kept", crossMaze(), []int{1, 5}, 8 + 128},
		{"four ways, an end and the junction kept", crossMaze(), []int{4, 7}, 1024},
		{"four ways, a cell without ways kept", crossMaze(), []int{0}, 0},
		{"four ways, three ends kept", crossMaze(), []int{3, 7, 5}, 4 + 8 + 1024},
		{"a comb, two far ends kept", combMaze(), []int{3, 15}, 7 + 512 + 1024 + 2048 + 1<<12 + 1<<16 + 1<<20},
		{"a comb, two cells of one row kept", combMaze(), []int{6, 5}, 1 << 4},
		{"a comb", combMaze(), nil, 0},
		{"row by row", rowByRow(), nil, 0},
		{"row by row, both ends kept", rowByRow(), []int{12, 0}, rowByRow().Open},
		{"a loop with a tail", tailMaze(), nil, 1 + 4 + 16 + 32},
		{"a loop with a tail, its end kept", tailMaze(), []int{5}, 1 + 2 + 4 + 16 + 32 + 64},
		{"a loop with a tail, a cell on it kept", tailMaze(), []int{2}, 1 + 2 + 4 + 16 + 32},
		{"a loop with a tail, a cell of the loop kept", tailMaze(), []int{3}, 1 + 4 + 16 + 32},
		{"two loops and a bridge", bridge, nil, bridge.Open},
		{"a ring", ringMaze(), nil, ringMaze().Open},
		{"a loop and a passage apart", impl.Maze{Grid: impl.Grid{Wide: 3, High: 2}, Open: 1 + 4 + 16 + 32 + 64}, []int{5}, 1 + 4 + 16 + 32},
	}
	for _, c := range cases {
		t.Run(c.name, func(t *testing.T) { checkFill(t, c.m, c.keep, c.open) })
	}
}

// holdsSomething reports whether the part that is painted in a color has a cell that is kept, or a loop, which nothing fills.
func holdsSomething(m impl.Maze, colors []int, color int, keep []int) bool {
	cells, passages := 0, 0
	for cell, c := range colors {
		if c == color {
			cells++
			if slices.Contains(keep, cell) {
				return true
			}
		}
	}
	for gap, ends := range gapsInOrder(m.Grid) {
		if isDrawnOpen(m, gap) && colors[ends.first] == color {
			passages++
		}
	}
	return passages >= cells
}

// drawnFill keeps the passages that are on a loop, and those that have something on both sides.
func drawnFill(m impl.Maze, keep []int) impl.Maze {
	filled := m
	for gap, ends := range gapsInOrder(m.Grid) {
		if !isDrawnOpen(m, gap) {
			continue
		}
		without := withGap(m, gap, false)
		colors := paint(without)
		a, b := colors[ends.first], colors[ends.second]
		if a != b && !(holdsSomething(without, colors, a, keep) && holdsSomething(without, colors, b, keep)) {
			filled = withGap(filled, gap, false)
		}
	}
	return filled
}

// TestFillEveryKeep keeps each set of cells of all mazes of the small grids.
func TestFillEveryKeep(t *testing.T) {
	for _, g := range allGrids() {
		if mazeCount(g) > 128 {
			continue
		}
		for _, m := range someMazes(g) {
			keep := []int{}
			var extend func(cell int)
			extend = func(cell int) {
				if cell == g.Wide*g.High {
					checkFill(t, m, keep, drawnFill(m, keep).Open)
					return
				}
				extend(cell + 1)
				keep = append(keep, cell)
				extend(cell + 1)
				keep = keep[:len(keep)-1]
			}
			extend(0)
		}
	}
}

func TestFillAsDrawn(t *testing.T) {
	for _, g := range allGrids() {
		n := g.Wide * g.High
		for i, m := range append(someMazes(g), almostPerfectMazes(g)...) {
			a, b, c := i%n, i*7/3%n, i*5/2%n
			for _, keep := range [][]int{nil, {a}, {b, a}, {a, b, c}, {c, a, c}} {
				checkFill(t, m, keep, drawnFill(m, keep).Open)
			}
			var every []int
			for cell := range n {
				every = append(every, n-1-cell)
			}
			checkFill(t, m, every, m.Open)
		}
	}
}

// TestFillLeavesTheWay: of a perfect maze, only the way between two cells that are kept is left, and nothing if there are no such two cells.
func TestFillLeavesTheWay(t *testing.T) {
	for _, g := range allGrids() {
		mazes := perfectMazes(g)
		for _, m := range mazes[:min(len(mazes), 60)] {
			checkFill(t, m, nil, 0)
			for a := range g.Wide * g.High {
				for b := range g.Wide * g.High {
					way, _ := impl.WayBetween(m, a, b)
					left := impl.Maze{Grid: g}
					for i, cell := range impl.CellsOn(m, a, way)[:len(way)] {
						left = withGap(left, impl.GapAt(g, cell, way[i]), true)
					}
					checkFill(t, m, []int{a, b}, left.Open)
				}
			}
		}
	}
}

// TestFillLeavesNoDeadEnd: after the filling, each dead end that is left is kept, and no loop is gone.
func TestFillLeavesNoDeadEnd(t *testing.T) {
	for _, g := range allGrids() {
		for i, m := range someMazes(g) {
			keep := []int{i % (g.Wide * g.High), i / 5 % (g.Wide * g.High)}
			filled := impl.FillDeadEnds(m, keep)
			for _, cell := range impl.DeadEnds(filled) {
				if !slices.Contains(keep, cell) {
					t.Errorf("FillDeadEnds(%v, %v) = %v, in which %d is a dead end", m, keep, filled, cell)
				}
			}
			if filled.Grid != g || filled.Open&^m.Open != 0 || impl.CountLoops(filled) != impl.CountLoops(m) {
				t.Errorf("FillDeadEnds(%v, %v) = %v, with %d loops, want %d", m, keep, filled, impl.CountLoops(filled), impl.CountLoops(m))
			}
			if (impl.DistanceOf(filled, keep[0], keep[1]) >= 0) != (impl.DistanceOf(m, keep[0], keep[1]) >= 0) {
				t.Errorf("FillDeadEnds(%v, %v) = %v, in which the way between those is not as before", m, keep, filled)
			}
		}
	}
}

// TestFillKeepsNoCell puts a number that is no cell alone, behind cells, and before and between cells.
func TestFillKeepsNoCell(t *testing.T) {
	for _, g := range allGrids() {
		n := g.Wide * g.High
		if n == 1 {
			continue
		}
		// Each of these mazes has dead ends that would be filled.
		for _, m := range []impl.Maze{drawnKruskal(g, shuffledOrder(g, 5)), withGap(impl.Maze{Grid: g}, 0, true)} {
			for _, bad := range append([]int{-n, -2, -1, n, n + 1, n + g.Wide, 2 * n, 100}, extremeInts...) {
				for _, keep := range [][]int{{bad}, {0, bad}, {n - 1, bad}, {bad, 0}, {0, bad, 0}, {0, 0, 0, 0, bad}, {bad, bad}, append(slices.Repeat([]int{0}, 500), bad)} {
					if got := impl.FillDeadEnds(m, keep); got != m {
						t.Errorf("FillDeadEnds(%v, %v) = %v, want it unchanged", m, keep, got)
					}
				}
			}
		}
	}
	one := impl.Maze{Grid: impl.Grid{Wide: 1, High: 1}}
	for _, keep := range [][]int{{-1}, {1}, {0, 1}, {0, -1}} {
		if got := impl.FillDeadEnds(one, keep); got != one {
			t.Errorf("FillDeadEnds(%v, %v) = %v, want it unchanged", one, keep, got)
		}
	}
}

func TestDeadInBadMazes(t *testing.T) {
	for _, m := range badMazes() {
		checkDead(t, deadCase{m: m})
		for _, keep := range [][]int{nil, {}, {0}, {0, 1}, {-1}, {16}, {0, -1}} {
			if got := impl.FillDeadEnds(m, keep); got != m {
				t.Errorf("FillDeadEnds(%v, %v) = %v, want it unchanged", m, keep, got)
			}
		}
	}
}

// TestFillLeavesTheList looks at the list and at the memory behind it.
func TestFillLeavesTheList(t *testing.T) {
	whole := []int{12, 3, 3, 0, 9, 9, 9}
	before := slices.Clone(whole)
	if got := impl.FillDeadEnds(combMaze(), whole[:4]); got.Open != 7+1<<12+1<<16+1<<20 {
		t.Errorf("FillDeadEnds(%v, %v) = %v", combMaze(), before[:4], got)
	}
	if !slices.Equal(whole, before) {
		t.Errorf("FillDeadEnds changed its list from %v to %v", before, whole)
	}
}

func TestDeadIsNewMemory(t *testing.T) {
	m := everyKindMaze()
	ends, junctions := impl.DeadEnds(m), impl.Junctions(m)
	for i := range ends {
		ends[i] = 9
	}
	for i := range junctions {
		junctions[i] = 9
	}
	checkDead(t, deadCase{m: m, ends: []int{0, 2, 5, 6, 7}, junctions: []int{1, 4}, sum: -2})
}
