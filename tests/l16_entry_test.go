package tests

import (
	"math/rand/v2"
	"slices"
	"strings"
	"testing"

	"loop.example/g00990/impl"
)

// fullMaze opens all gaps of a grid.
func fullMaze(g impl.Grid) impl.Maze {
	return impl.Maze{Grid: g, Open: mazeCount(g) - 1}
}

// checkEntries expects that a walk can be walked, what mazes it leaves behind and after how many steps it has been everywhere.
func checkEntries(t *testing.T, g impl.Grid, cell int, way []int, first, last impl.Maze, cover int) {
	t.Helper()
	if got, ok := impl.FirstEntryMaze(g, cell, way); got != first || ok != (cover >= 0) {
		t.Errorf("FirstEntryMaze(%v, %d, %v) = %v, %v, want %v, %v", g, cell, way, got, ok, first, cover >= 0)
	}
	if got, ok := impl.LastExitMaze(g, cell, way); got != last || ok != (cover >= 0) {
		t.Errorf("LastExitMaze(%v, %d, %v) = %v, %v, want %v, %v", g, cell, way, got, ok, last, cover >= 0)
	}
	if got := impl.CoverTime(g, cell, way); got != cover {
		t.Errorf("CoverTime(%v, %d, %v) = %d, want %d", g, cell, way, got, cover)
	}
}

// checkNoEntries expects that a walk cannot be walked.
func checkNoEntries(t *testing.T, g impl.Grid, cell int, way []int) {
	t.Helper()
	checkEntries(t, g, cell, way, impl.Maze{}, impl.Maze{}, -1)
}

// drawnEntries looks, for each cell by itself, for the first and the last place at which a walk along cells is in it.
func drawnEntries(g impl.Grid, cells []int) (first, last impl.Maze, cover int) {
	first, last = impl.Maze{Grid: g}, impl.Maze{Grid: g}
	gaps := gapsBetween(g)
	for cell := range g.Wide * g.High {
		entry, exit := slices.Index(cells, cell), len(cells)-1
		for exit >= 0 && cells[exit] != cell {
			exit--
		}
		if entry > 0 {
			first = withGap(first, gaps[neighborPair{cells[entry-1], cell}], true)
		}
		if exit >= 0 && exit < len(cells)-1 {
			last = withGap(last, gaps[neighborPair{cell, cells[exit+1]}], true)
		}
		if entry < 0 || cover < 0 {
			cover = -1
		} else {
			cover = max(cover, entry)
		}
	}
	return first, last, cover
}

// checkWalked holds the functions against the cells of a walk, which may be one that cannot be walked.
func checkWalked(t *testing.T, g impl.Grid, cell int, way []int) {
	t.Helper()
	cells := drawnWalk(fullMaze(g), cell, way)
	if cells == nil {
		checkNoEntries(t, g, cell, way)
		return
	}
	first, last, cover := drawnEntries(g, cells)
	checkEntries(t, g, cell, way, first, last, cover)
}

// cellsBeen counts the different cells of a walk.
func cellsBeen(cells []int) int {
	been := map[int]bool{}
	for _, cell := range cells {
		been[cell] = true
	}
	return len(been)
}

// checkEverywhere is promise 16 for a walk that can be walked: its first entries, and its last exits, make a perfect maze just if it has been in every cell, and CoverTime is the number of steps after which that is so, and not yet one step earlier. It reports whether the walk has been everywhere.
func checkEverywhere(t *testing.T, g impl.Grid, cell int, way []int) bool {
	t.Helper()
	cells := drawnWalk(fullMaze(g), cell, way)
	been := cellsBeen(cells)
	everywhere := been == g.Wide*g.High
	for name, mazeOf := range map[string]func(impl.Grid, int, []int) (impl.Maze, bool){"FirstEntryMaze": impl.FirstEntryMaze, "LastExitMaze": impl.LastExitMaze} {
		m, ok := mazeOf(g, cell, way)
		if ok != everywhere || impl.IsPerfect(m) != everywhere || hasOneWay(m) != everywhere {
			t.Errorf("%s(%v, %d, %v) = %v, %v, but the walk has been in %d cells", name, g, cell, way, m, ok, been)
		}
		// Whether the walk has been everywhere or not, one way leads to each cell where it has been, and none to another one.
		reached := impl.Reached(m, cell)
		if m.Grid != g || passagesIn(m) != been-1 || len(reached) != been || !slices.Equal(reached, impl.Reached(m, cells[len(cells)-1])) {
			t.Errorf("%s(%v, %d, %v) = %v, which connects the cells %v, but the walk has been in %v", name, g, cell, way, m, reached, cells)
		}
	}
	cover := impl.CoverTime(g, cell, way)
	if (cover >= 0) != everywhere || cover < -1 || cover > len(way) {
		t.Errorf("CoverTime(%v, %d, %v) = %d, but the walk has been in %d cells", g, cell, way, cover, been)
		return everywhere
	}
	if !everywhere {
		return false
	}
	if cellsBeen(cells[:cover+1]) != been || cellsBeen(cells[:cover]) == been {
		t.Errorf("CoverTime(%v, %d, %v) = %d, want the first time at which the walk has been everywhere", g, cell, way, cover)
	}
	checkCovering(t, g, cell, way, cover)
	return true
}

// checkCovering cuts a walk off where it has been everywhere for the first time, and a step before.
func checkCovering(t *testing.T, g impl.Grid, cell int, way []int, cover int) {
	t.Helper()
	m, _ := impl.FirstEntryMaze(g, cell, way)
	if got, ok := impl.FirstEntryMaze(g, cell, way[:cover]); got != m || !ok || impl.CoverTime(g, cell, way[:cover]) != cover {
		t.Errorf("%v: the first %d steps of %v from %d make %v, %v, but all steps make %v", g, cover, way, cell, got, ok, m)
	}
	if cover == 0 {
		return
	}
	short := way[:cover-1]
	if got, ok := impl.FirstEntryMaze(g, cell, short); ok || impl.CoverTime(g, cell, short) != -1 || passagesIn(got) != g.Wide*g.High-2 {
		t.Errorf("%v: the first %d steps of %v from %d make %v, %v, and the walk is everywhere after %d", g, cover-1, way, cell, got, ok, impl.CoverTime(g, cell, short))
	}
	if got, ok := impl.LastExitMaze(g, cell, short); ok || passagesIn(got) != g.Wide*g.High-2 {
		t.Errorf("%v: the last exits of the first %d steps of %v from %d make %v, %v", g, cover-1, way, cell, got, ok)
	}
}

// toMiddleAndBack goes from one end of a row of three cells to its middle and back, many times.
var toMiddleAndBack = strings.Repeat("EW", 199)

// entryCases has walks, the Open of the mazes of their first entries and last exits, and their cover times.
var entryCases = []struct {
	name              string
	g                 impl.Grid
	cell              int
	way               string
	first, last, time int
}{
	{"one cell", impl.Grid{Wide: 1, High: 1}, 0, "", 0, 0, 0},
	{"two cells in a row and no step", impl.Grid{Wide: 2, High: 1}, 0, "", 0, 0, -1},
	{"to the other one of two cells in a row", impl.Grid{Wide: 2, High: 1}, 0, "E", 1, 1, 1},
	{"to the first one of two cells in a row", impl.Grid{Wide: 2, High: 1}, 1, "W", 1, 1, 1},
	{"there and back in a row of two", impl.Grid{Wide: 2, High: 1}, 0, "EW", 1, 1, 1},
	{"to and fro in a row of two", impl.Grid{Wide: 2, High: 1}, 1, "WEWEWEW", 1, 1, 1},
	{"two cells in a column and no step", impl.Grid{Wide: 1, High: 2}, 1, "", 0, 0, -1},
	{"to the other one of two cells in a column", impl.Grid{Wide: 1, High: 2}, 0, "S", 1, 1, 1},
	{"to and fro in a column of two", impl.Grid{Wide: 1, High: 2}, 1, "NSNS", 1, 1, 1},
	{"along a row", impl.Grid{Wide: 4, High: 1}, 0, "EEE", 7, 7, 3},
	{"along a row, one cell too few", impl.Grid{Wide: 4, High: 1}, 0, "EE", 3, 3, -1},
	{"from the middle of a row in one direction", impl.Grid{Wide: 4, High: 1}, 1, "EE", 6, 6, -1},
	{"from the middle of a row in both directions", impl.Grid{Wide: 4, High: 1}, 1, "WEEE", 7, 7, 4},
	{"from the middle of a row, the other way first", impl.Grid{Wide: 4, High: 1}, 1, "EEWWW", 7, 7, 5},
	{"along a column", impl.Grid{Wide: 1, High: 4}, 3, "NNN", 7, 7, 3},
	{"from the middle of a column in both directions", impl.Grid{Wide: 1, High: 4}, 2, "SNNN", 7, 7, 4},
	{"in the middle of a column", impl.Grid{Wide: 1, High: 4}, 1, "SNSN", 2, 2, -1},
	{"everywhere after 400 steps", impl.Grid{Wide: 3, High: 1}, 0, toMiddleAndBack + "EE", 3, 3, 400},
	{"nearly everywhere after 399 steps", impl.Grid{Wide: 3, High: 1}, 0, toMiddleAndBack + "E", 1, 1, -1},
	{"nearly everywhere after 400 steps", impl.Grid{Wide: 3, High: 1}, 0, toMiddleAndBack + "EW", 1, 1, -1},
	{"no step", impl.Grid{Wide: 2, High: 2}, 2, "", 0, 0, -1},
	{"one step", impl.Grid{Wide: 2, High: 2}, 0, "E", 1, 1, -1},
	{"one step to the north", impl.Grid{Wide: 2, High: 2}, 3, "N", 8, 8, -1},
	{"a step there and back", impl.Grid{Wide: 2, High: 2}, 0, "EW", 1, 1, -1},
	{"a step there and back to both sides", impl.Grid{Wide: 2, High: 2}, 0, "EWSN", 5, 5, -1},
	{"one cell before the last one", impl.Grid{Wide: 2, High: 2}, 0, "ES", 9, 9, -1},
	{"just in the last cell", impl.Grid{Wide: 2, High: 2}, 0, "ESW", 11, 11, 3},
	{"just in the last cell, from another one", impl.Grid{Wide: 2, High: 2}, 3, "NWS", 13, 13, 3},
	{"around a loop", impl.Grid{Wide: 2, High: 2}, 0, "ESWN", 11, 14, 3},
	{"around a loop the other way", impl.Grid{Wide: 2, High: 2}, 0, "SENW", 14, 11, 3},
	{"around a loop and a step on", impl.Grid{Wide: 2, High: 2}, 0, "ESWNE", 11, 7, 3},
	{"around a loop twice", impl.Grid{Wide: 2, High: 2}, 0, "ESWNESWN", 11, 14, 3},
	{"around a loop, and around it the other way", impl.Grid{Wide: 2, High: 2}, 0, "ESWNSENW", 11, 11, 3},
	{"on when it has been everywhere", impl.Grid{Wide: 2, High: 2}, 0, "ESWE", 11, 11, 3},
	{"back along the same way", impl.Grid{Wide: 2, High: 2}, 0, "ESWENW", 11, 11, 3},
	{"out of one cell by different gaps", impl.Grid{Wide: 2, High: 2}, 0, "EWSEN", 7, 14, 4},
	{"out of one cell by the same gap", impl.Grid{Wide: 2, High: 2}, 0, "EWEWES", 9, 9, -1},
	{"out of one cell by the same gap, and then everywhere", impl.Grid{Wide: 2, High: 2}, 0, "EWEWESW", 11, 11, 7},
	{"into one cell by different gaps", impl.Grid{Wide: 2, High: 2}, 0, "ESWEN", 11, 11, 3},
	{"to a cell that it has left before", impl.Grid{Wide: 2, High: 2}, 0, "ESN", 9, 9, -1},
	{"to a cell that it has left by two gaps before", impl.Grid{Wide: 2, High: 2}, 0, "EWSENW", 7, 11, 4},
	{"around a ring of six", impl.Grid{Wide: 3, High: 2}, 0, "EESWW", 79, 79, 5},
	{"around a ring of six and back", impl.Grid{Wide: 3, High: 2}, 0, "EESWWN", 79, 94, 5},
	{"around a loop first", impl.Grid{Wide: 3, High: 2}, 0, "ESWNEES", 103, 87, 7},
	{"back to the beginning many times", impl.Grid{Wide: 3, High: 2}, 1, "WESNEW", 35, 35, -1},
	{"back to the beginning many times, and then everywhere", impl.Grid{Wide: 3, High: 2}, 1, "WESNEWSWEE", 47, 47, 10},
	{"back to the beginning by another gap each time", impl.Grid{Wide: 3, High: 2}, 1, "WSENSENW", 93, 94, 7},
	{"row by row in two columns", impl.Grid{Wide: 2, High: 3}, 0, "ESWSE", 55, 55, 5},
	{"a star", impl.Grid{Wide: 3, High: 3}, 4, "NSEWSNWE", 1164, 1164, -1},
	{"out in a spiral", impl.Grid{Wide: 3, High: 3}, 4, "NESSWWNN", 3058, 3058, 8},
	{"out in a spiral and a step on", impl.Grid{Wide: 3, High: 3}, 4, "NESSWWNNE", 3058, 3057, 8},
	{"row by row in four columns", impl.Grid{Wide: 4, High: 4}, 0, "EEESWWWSEEESWWW", 8491007, 8491007, 15},
}

func TestEntryCases(t *testing.T) {
	for _, c := range entryCases {
		t.Run(c.name, func(t *testing.T) {
			way := turns(c.way)
			checkEntries(t, c.g, c.cell, way, impl.Maze{Grid: c.g, Open: c.first}, impl.Maze{Grid: c.g, Open: c.last}, c.time)
			checkWalked(t, c.g, c.cell, way)
			checkEverywhere(t, c.g, c.cell, way)
		})
	}
}

// snakeTexts has the way through each grid, laid out like gapCounts.
var snakeTexts = [4][4]string{
	{"", "E", "EE", "EEE"},
	{"S", "ESW", "EESWW", "EEESWWW"},
	{"SS", "ESWSE", "EESWWSEE", "EEESWWWSEEE"},
	{"SSS", "ESWSESW", "EESWWSEESWW", "EEESWWWSEEESWWW"},
}

// TestSnakeWay walks through each grid row by row, forwards and backwards. No gap is passed twice, so both mazes have the same passages.
func TestSnakeWay(t *testing.T) {
	for _, g := range allGrids() {
		want := turns(snakeTexts[g.High-1][g.Wide-1])
		way := impl.SnakeWay(g)
		if !slices.Equal(way, want) {
			t.Errorf("SnakeWay(%v) = %v, want %v", g, way, want)
			continue
		}
		n, m := g.Wide*g.High, fullMaze(g)
		cells := drawnWalk(m, 0, way)
		if len(cells) != n || cellsBeen(cells) != n {
			t.Errorf("SnakeWay(%v) goes through the cells %v, want each one once", g, cells)
		}
		row := impl.Maze{Grid: g}
		for i := range n - 1 {
			row = withGap(row, gapsBetween(g)[neighborPair{cells[i], cells[i+1]}], true)
		}
		back, end := impl.ReverseWay(way), cells[n-1]
		checkEntries(t, g, 0, way, row, row, n-1)
		checkEntries(t, g, end, back, row, row, n-1)
		checkEntries(t, g, 0, slices.Concat(way, back), row, row, n-1)
		checkEntries(t, g, end, slices.Concat(back, way), row, row, n-1)
		for steps := range n - 1 {
			if first, ok := impl.FirstEntryMaze(g, 0, way[:steps]); ok || passagesIn(first) != steps || impl.CoverTime(g, 0, way[:steps]) != -1 {
				t.Errorf("%v: %d steps of SnakeWay make %v, %v", g, steps, first, ok)
			}
			checkWalked(t, g, 0, way[:steps])
			checkWalked(t, g, end, back[:steps])
		}
	}
	for _, g := range badGrids() {
		if way := impl.SnakeWay(g); len(way) > 0 {
			t.Errorf("SnakeWay(%v) = %v, want nil", g, way)
		}
	}
}

// TestSnakeWayOfEachCall: the way is new each time.
func TestSnakeWayOfEachCall(t *testing.T) {
	for _, g := range allGrids() {
		one, other := impl.SnakeWay(g), impl.SnakeWay(g)
		overwrite(one)
		if want := turns(snakeTexts[g.High-1][g.Wide-1]); !slices.Equal(other, want) || !slices.Equal(impl.SnakeWay(g), want) {
			t.Errorf("SnakeWay(%v) became %v and then %v with another one", g, other, impl.SnakeWay(g))
		}
	}
}

// TestEveryShortWalk has all walks of up to some length from each cell of the smaller grids.
func TestEveryShortWalk(t *testing.T) {
	lengths := map[impl.Grid]int{{Wide: 1, High: 1}: 3, {Wide: 2, High: 1}: 10, {Wide: 1, High: 2}: 10, {Wide: 3, High: 1}: 10, {Wide: 1, High: 3}: 10, {Wide: 4, High: 1}: 10, {Wide: 1, High: 4}: 10, {Wide: 2, High: 2}: 9, {Wide: 3, High: 2}: 7, {Wide: 2, High: 3}: 7}
	for g, length := range lengths {
		made := map[impl.Maze]bool{}
		for cell := range g.Wide * g.High {
			everyWalk(g, cell, length, func(way []int) {
				checkWalked(t, g, cell, way)
				if checkEverywhere(t, g, cell, way) {
					m, _ := impl.FirstEntryMaze(g, cell, way)
					made[m] = true
				}
			})
		}
		// Seven steps are enough to be everywhere in all perfect mazes of these grids, if the walk may begin at any end.
		if len(made) != len(perfectMazes(g)) {
			t.Errorf("%v: the walks of up to %d steps make %d perfect mazes, want all %d", g, length, len(made), len(perfectMazes(g)))
		}
	}
}

// everyWalk checks each walk of up to n steps from a cell of a grid.
func everyWalk(g impl.Grid, cell, n int, check func(way []int)) {
	steps := gridSteps(g)
	var longer func(cell int, way []int)
	longer = func(cell int, way []int) {
		check(slices.Clone(way))
		if len(way) == n {
			return
		}
		for direction, next := range steps[cell] {
			if next >= 0 {
				longer(next, append(way, direction))
			}
		}
	}
	longer(cell, nil)
}

// TestShortWaysInGrids has all ways of up to four numbers, of which many lead out of the grid or are no ways.
func TestShortWaysInGrids(t *testing.T) {
	ways := shortWays()
	for _, g := range allGrids() {
		if g.Wide*g.High > 9 {
			continue
		}
		for cell := range g.Wide * g.High {
			for _, way := range ways {
				checkWalked(t, g, cell, way)
			}
		}
	}
}

// TestWalksInGrids is promise 16 for many walks in full grids of all sizes, from each cell, of no step and up to 400.
func TestWalksInGrids(t *testing.T) {
	r := rand.New(rand.NewPCG(16, 1))
	for _, g := range allGrids() {
		n := g.Wide * g.High
		counts := map[bool]int{}
		for cell := range n {
			for _, length := range []int{0, 1, 2, n - 2, n - 1, n, 2 * n, 3 * n, 5 * n, 9 * n, 15 * n, 399, 400} {
				for range 6 {
					way := randomWay(r, fullMaze(g), cell, max(0, length))
					checkWalked(t, g, cell, way)
					counts[checkEverywhere(t, g, cell, way)]++
				}
			}
		}
		// In one cell alone, there is no walk that has not been everywhere.
		if counts[true] < 10*n || counts[false] < 10*n && n > 1 {
			t.Errorf("%v: %d walks were everywhere and %d were not", g, counts[true], counts[false])
		}
	}
}

// tourOf is a way through all cells that can be reached in a maze without loops, and back.
func tourOf(r *rand.Rand, steps [][4]int, cell, from int) []int {
	way := []int{}
	for _, direction := range r.Perm(4) {
		if next := steps[cell][direction]; next >= 0 && next != from {
			way = append(way, direction)
			way = append(way, tourOf(r, steps, next, cell)...)
			way = append(way, (direction+2)%4)
		}
	}
	return way
}

// TestWalksThroughPerfectMazes: a walk that keeps to the passages of a perfect maze and is everywhere makes this maze, by its first entries and by its last exits.
func TestWalksThroughPerfectMazes(t *testing.T) {
	r := rand.New(rand.NewPCG(16, 2))
	for _, g := range allGrids() {
		n := g.Wide * g.High
		for _, m := range perfectMazes(g) {
			steps := drawnSteps(m)
			for _, cell := range r.Perm(n)[:min(n, 3)] {
				tour := tourOf(r, steps, cell, -1)
				time := impl.CoverTime(g, cell, tour)
				checkEntries(t, g, cell, tour, m, m, time)
				further := slices.Concat(tour, randomWay(r, m, cell, r.IntN(100)))
				checkEntries(t, g, cell, further, m, m, time)
				if !checkEverywhere(t, g, cell, further) {
					t.Errorf("%v: the walk %v from %d has not been everywhere", g, further, cell)
				}
				// Less of the way makes less of the maze.
				part := randomWay(r, m, cell, r.IntN(2*n))
				first, _ := impl.FirstEntryMaze(g, cell, part)
				last, _ := impl.LastExitMaze(g, cell, part)
				if first != last || first.Open&^m.Open != 0 {
					t.Errorf("the walk %v from %d in %v makes %v and %v", part, cell, m, first, last)
				}
			}
		}
	}
}

// coveringWay is a walk from a cell that has been everywhere just at its end.
func coveringWay(r *rand.Rand, g impl.Grid, cell int) []int {
	for {
		way := randomWay(r, fullMaze(g), cell, 390)
		if _, _, cover := drawnEntries(g, drawnWalk(fullMaze(g), cell, way)); cover >= 0 {
			return way[:cover]
		}
	}
}

// TestWalksThatGoOn: once a walk has been everywhere, further steps leave its first entries and its cover time alone, and steps before it leave its last exits alone.
func TestWalksThatGoOn(t *testing.T) {
	r := rand.New(rand.NewPCG(16, 3))
	for _, g := range allGrids() {
		for cell := range g.Wide * g.High {
			way := coveringWay(r, g, cell)
			first, ok := impl.FirstEntryMaze(g, cell, way)
			last, is := impl.LastExitMaze(g, cell, way)
			time := impl.CoverTime(g, cell, way)
			if !ok || !is || time != len(way) {
				t.Errorf("%v: the walk %v from %d makes %v, %v and %v, %v and is everywhere after %d steps", g, way, cell, first, ok, last, is, time)
			}
			further := randomWay(r, fullMaze(g), cell, 400-len(way))
			before := impl.ReverseWay(further)
			start, _ := impl.WalkWay(fullMaze(g), cell, further)
			if got, ok := impl.LastExitMaze(g, start, slices.Concat(before, way)); got != last || !ok {
				t.Errorf("LastExitMaze of %v from %d and then %v in %v = %v, %v, want %v", before, start, way, g, got, ok, last)
			}
			end, _ := impl.WalkWay(fullMaze(g), cell, way)
			for n := 1; n <= 400-len(way) && g.Wide*g.High > 1; n += 1 + n {
				longer := slices.Concat(way, randomWay(r, fullMaze(g), end, n))
				if got, ok := impl.FirstEntryMaze(g, cell, longer); got != first || !ok || impl.CoverTime(g, cell, longer) != time {
					t.Errorf("FirstEntryMaze(%v, %d, %v) = %v, %v, want %v", g, cell, longer, got, ok, first)
				}
				checkWalked(t, g, cell, longer)
			}
		}
	}
}

// TestWalksBack: what a walk enters first, the walk back leaves last.
func TestWalksBack(t *testing.T) {
	r := rand.New(rand.NewPCG(16, 4))
	for _, g := range allGrids() {
		for cell := range g.Wide * g.High {
			for _, length := range []int{1, 5, 20, 80, 400} {
				way := randomWay(r, fullMaze(g), cell, length)
				end, _ := impl.WalkWay(fullMaze(g), cell, way)
				back := impl.ReverseWay(way)
				first, ok := impl.FirstEntryMaze(g, cell, way)
				last, is := impl.LastExitMaze(g, cell, way)
				if got, same := impl.LastExitMaze(g, end, back); got != first || same != ok {
					t.Errorf("LastExitMaze(%v, %d, %v) = %v, %v, want %v, %v", g, end, back, got, same, first, ok)
				}
				if got, same := impl.FirstEntryMaze(g, end, back); got != last || same != is {
					t.Errorf("FirstEntryMaze(%v, %d, %v) = %v, %v, want %v, %v", g, end, back, got, same, last, is)
				}
			}
		}
	}
}

// TestWalkLimitInGrids: of 400 steps all count, while 401 are too many, even where the walk has been everywhere before.
func TestWalkLimitInGrids(t *testing.T) {
	r := rand.New(rand.NewPCG(16, 5))
	for _, g := range allGrids() {
		n := g.Wide * g.High
		if n == 1 {
			continue
		}
		for _, cell := range []int{0, n / 2, n - 1} {
			way := coveringWay(r, g, cell)
			end, _ := impl.WalkWay(fullMaze(g), cell, way)
			whole := slices.Concat(way, randomWay(r, fullMaze(g), end, 1000))
			for _, length := range []int{398, 399, 400} {
				checkWalked(t, g, cell, whole[:length])
				if !checkEverywhere(t, g, cell, whole[:length]) {
					t.Errorf("%v: %d steps of %v from %d were not everywhere", g, length, whole, cell)
				}
			}
			for _, length := range []int{401, 402, 500, 1000} {
				checkNoEntries(t, g, cell, whole[:length])
			}
		}
	}
	row := impl.Grid{Wide: 3, High: 1}
	checkNoEntries(t, row, 0, turns(toMiddleAndBack+"EEW"))
	checkNoEntries(t, row, 0, turns(toMiddleAndBack+"EWE"))
}

// checkStepsOut puts each step out of the grid, alone and with the one back behind it, at each place of a walk.
func checkStepsOut(t *testing.T, g impl.Grid, cell int, way []int) {
	t.Helper()
	steps := gridSteps(g)
	for place, at := range drawnWalk(fullMaze(g), cell, way) {
		for direction, next := range steps[at] {
			if next >= 0 {
				continue
			}
			checkNoEntries(t, g, cell, slices.Concat(way[:place], []int{direction}))
			checkNoEntries(t, g, cell, slices.Concat(way[:place], []int{direction}, way[place:]))
			checkNoEntries(t, g, cell, slices.Concat(way[:place], []int{direction, (direction + 2) % 4}, way[place:]))
		}
	}
}

// TestStepOutOfGrid leaves the grid at each border, with the first step, in between and with the last one, also where the walk has been everywhere before.
func TestStepOutOfGrid(t *testing.T) {
	r := rand.New(rand.NewPCG(16, 6))
	for _, g := range allGrids() {
		n := g.Wide * g.High
		for _, cell := range []int{0, g.Wide - 1, n - g.Wide, n - 1, n / 2} {
			way := coveringWay(r, g, cell)
			checkStepsOut(t, g, cell, way[:min(len(way), 60)])
		}
		way := turns(snakeTexts[g.High-1][g.Wide-1])
		back := impl.ReverseWay(way)
		checkStepsOut(t, g, 0, slices.Concat(way, back))
		checkStepsOut(t, g, n-1, slices.Concat(back, way))
	}
}

// TestNoDirection puts numbers that are no directions at each place of walks.
func TestNoDirection(t *testing.T) {
	numbers := append([]int{-257, -8, -5, -4, -3, -2, -1, 4, 5, 6, 7, 8, 256, 257}, extremeInts...)
	for _, c := range entryCases {
		way := turns(c.way)
		for place := 0; place <= len(way); place += 1 + place/20 {
			for _, number := range numbers {
				checkNoEntries(t, c.g, c.cell, slices.Insert(slices.Clone(way), place, number))
			}
		}
		for _, number := range numbers {
			checkNoEntries(t, c.g, c.cell, append(slices.Clone(way), number))
			if len(way) > 0 {
				checkNoEntries(t, c.g, c.cell, append(slices.Clone(way[:len(way)-1]), number))
			}
		}
	}
}

// TestWalksFromNoCell begins before the first and after the last cell, with ways that would stay there or lead into the grid.
func TestWalksFromNoCell(t *testing.T) {
	for _, g := range allGrids() {
		n := g.Wide * g.High
		for _, cell := range append([]int{-n, -g.Wide - 1, -g.Wide, -2, -1, n, n + 1, n + g.Wide, 16, 100}, extremeInts...) {
			for _, text := range []string{"", "N", "E", "S", "W", "NS", "EW", "SN", "WE", "ESWN", snakeTexts[g.High-1][g.Wide-1]} {
				checkNoEntries(t, g, cell, turns(text))
			}
			checkNoEntries(t, g, cell, impl.ReverseWay(impl.SnakeWay(g)))
		}
	}
}

func TestWalksInBadGrids(t *testing.T) {
	for _, g := range badGrids() {
		for _, cell := range []int{-16, -1, 0, 1, 3, 15, 16} {
			for _, text := range []string{"", "N", "E", "S", "W", "NS", "EW", "SN", "WE", "ESWN"} {
				checkNoEntries(t, g, cell, turns(text))
			}
			checkNoEntries(t, g, cell, []int{-1})
		}
	}
}

// TestWalkIsLeftAlone: no function changes a way or the memory behind it, and none remembers an earlier call.
func TestWalkIsLeftAlone(t *testing.T) {
	r := rand.New(rand.NewPCG(16, 7))
	for _, g := range allGrids() {
		n := g.Wide * g.High
		for _, length := range []int{0, 1, 2, n - 1, 2 * n, 10 * n, 400, 401} {
			for _, tail := range [][]int{nil, {impl.North}, {impl.West, impl.East}, {-1}, {4}} {
				cell := r.IntN(n)
				way, whole := withSpare(append(randomWay(r, fullMaze(g), cell, length), tail...))
				before := slices.Clone(whole)
				first, ok := impl.FirstEntryMaze(g, cell, way)
				last, is := impl.LastExitMaze(g, cell, way)
				time := impl.CoverTime(g, cell, way)
				if !slices.Equal(whole, before) {
					t.Errorf("%v: the way %v became %v", g, before, whole)
				}
				other := impl.Grid{Wide: 2, High: 2}
				impl.FirstEntryMaze(other, 3, turns("NWS"))
				impl.LastExitMaze(other, 1, turns("WE"))
				if got, again := impl.FirstEntryMaze(g, cell, way); got != first || again != ok {
					t.Errorf("FirstEntryMaze(%v, %d, %v) = %v, %v and then %v, %v", g, cell, way, first, ok, got, again)
				}
				if got, again := impl.LastExitMaze(g, cell, way); got != last || again != is {
					t.Errorf("LastExitMaze(%v, %d, %v) = %v, %v and then %v, %v", g, cell, way, last, is, got, again)
				}
				if got := impl.CoverTime(g, cell, way); got != time {
					t.Errorf("CoverTime(%v, %d, %v) = %d and then %d", g, cell, way, time, got)
				}
			}
		}
	}
}
