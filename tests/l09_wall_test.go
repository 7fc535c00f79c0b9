package tests

import (
	"slices"
	"strings"
	"testing"

	"loop.example/g00990/impl"
)

// wallCase is a maze with the parts and the loops of its walls, and whether its walls are a tree.
type wallCase struct {
	name  string
	m     impl.Maze
	parts int
	loops int
	tree  bool
}

// islandMaze has one wall piece in the middle that touches no edge, and a way around it.
func islandMaze() impl.Maze {
	return impl.Maze{Grid: impl.Grid{Wide: 3, High: 2}, Open: 127 - 32}
}

func wallCases() []wallCase {
	one, small, large := impl.Grid{Wide: 1, High: 1}, impl.Grid{Wide: 2, High: 2}, impl.Grid{Wide: 4, High: 4}
	row, column, nine := impl.Grid{Wide: 4, High: 1}, impl.Grid{Wide: 1, High: 4}, impl.Grid{Wide: 3, High: 3}
	return []wallCase{
		{"one cell", impl.Maze{Grid: one}, 1, 0, true},
		{"two cells and a wall", impl.Maze{Grid: impl.Grid{Wide: 2, High: 1}}, 1, 1, false},
		{"two cells and a passage", impl.Maze{Grid: impl.Grid{Wide: 2, High: 1}, Open: 1}, 1, 0, true},
		{"two cells and a wall to the south", impl.Maze{Grid: impl.Grid{Wide: 1, High: 2}}, 1, 1, false},
		{"two cells and a passage to the south", impl.Maze{Grid: impl.Grid{Wide: 1, High: 2}, Open: 1}, 1, 0, true},
		{"a row without passages", impl.Maze{Grid: row}, 1, 3, false},
		{"a row", impl.FullMaze(row), 1, 0, true},
		{"a row, the first gap closed", impl.Maze{Grid: row, Open: 6}, 1, 1, false},
		{"a row, the last gap closed", impl.Maze{Grid: row, Open: 3}, 1, 1, false},
		{"a column without passages", impl.Maze{Grid: column}, 1, 3, false},
		{"a column", impl.FullMaze(column), 1, 0, true},
		{"a column, the first gap closed", impl.Maze{Grid: column, Open: 6}, 1, 1, false},
		{"a column, the last gap closed", impl.Maze{Grid: column, Open: 3}, 1, 1, false},
		{"four cells without passages", impl.Maze{Grid: small}, 1, 3, false},
		{"four cells, all gaps open", impl.FullMaze(small), 2, 0, false},
		{"four cells, gap 0 closed", impl.Maze{Grid: small, Open: 14}, 1, 0, true},
		{"four cells, gap 1 closed", impl.Maze{Grid: small, Open: 13}, 1, 0, true},
		{"four cells, gap 2 closed", impl.Maze{Grid: small, Open: 11}, 1, 0, true},
		{"four cells, gap 3 closed", impl.Maze{Grid: small, Open: 7}, 1, 0, true},
		{"two halves, one above the other", impl.Maze{Grid: small, Open: 3}, 1, 1, false},
		{"two halves side by side", impl.Maze{Grid: small, Open: 12}, 1, 1, false},
		{"one cell apart", impl.Maze{Grid: small, Open: 9}, 1, 1, false},
		{"one passage", impl.Maze{Grid: small, Open: 1}, 1, 2, false},
		{"two bends", bentMaze(), 1, 1, false},
		{"an island of one piece", islandMaze(), 2, 0, false},
		{"an island of one piece and a cell apart", impl.Maze{Grid: impl.Grid{Wide: 4, High: 2}, Open: 1023 - 4 - 128 - 512}, 2, 1, false},
		{"an island of one corner and a part apart", impl.Maze{Grid: impl.Grid{Wide: 3, High: 2}, Open: 1 + 4 + 16 + 32}, 2, 2, false},
		{"an island of one corner in three columns", impl.Maze{Grid: impl.Grid{Wide: 3, High: 2}, Open: 127 - 64}, 2, 0, false},
		{"two islands of one corner", impl.FullMaze(impl.Grid{Wide: 3, High: 2}), 3, 0, false},
		{"two islands of one corner in three rows", impl.FullMaze(impl.Grid{Wide: 2, High: 3}), 3, 0, false},
		{"a cross and four corners", crossMaze(), 1, 4, false},
		{"a ring around one cell", ringMaze(), 2, 1, false},
		{"cells of every kind", everyKindMaze(), 1, 1, false},
		{"nine cells without passages", impl.Maze{Grid: nine}, 1, 8, false},
		{"all gaps of nine cells open", impl.FullMaze(nine), 5, 0, false},
		{"row by row", rowByRow(), 1, 0, true},
		{"row by row and one loop", withGap(rowByRow(), 12, true), 2, 0, false},
		{"row by row, cut in two", withGap(rowByRow(), 11, false), 1, 1, false},
		{"row by row, cut in two and one loop", withGap(withGap(rowByRow(), 11, false), 12, true), 2, 1, false},
		{"a comb", combMaze(), 1, 0, true},
		{"the largest grid without passages", impl.Maze{Grid: large}, 1, 15, false},
		{"all gaps of the largest grid open", impl.FullMaze(large), 10, 0, false},
		{"an island of all inner corners", impl.Maze{Grid: large, Open: 1 + 2 + 4 + 512 + 1024 + 2048 + 1<<12 + 1<<15 + 1<<16 + 1<<19 + 1<<20 + 1<<23}, 2, 4, false},
	}
}

// checkWall holds each function that looks at a maze against what is expected of it.
func checkWall(t *testing.T, c wallCase) {
	t.Helper()
	if got := impl.WallParts(c.m); got != c.parts {
		t.Errorf("WallParts(%v) = %d, want %d", c.m, got, c.parts)
	}
	if got := impl.WallLoops(c.m); got != c.loops {
		t.Errorf("WallLoops(%v) = %d, want %d", c.m, got, c.loops)
	}
	if got := impl.IsWallTree(c.m); got != c.tree {
		t.Errorf("IsWallTree(%v) = %v, want %v", c.m, got, c.tree)
	}
}

func TestWallCases(t *testing.T) {
	for _, c := range wallCases() {
		t.Run(c.name, func(t *testing.T) { checkWall(t, c) })
	}
}

// drawnParts counts the parts into which the places of a drawing with this character are divided, of which those side by side or one above the other are together.
func drawnParts(lines []string, character byte) int {
	left := make([][]byte, len(lines))
	for i, line := range lines {
		left[i] = []byte(line)
	}
	var erase func(line, place int)
	erase = func(line, place int) {
		if line < 0 || line >= len(left) || place < 0 || place >= len(left[line]) || left[line][place] != character {
			return
		}
		left[line][place] = '.'
		erase(line-1, place)
		erase(line+1, place)
		erase(line, place-1)
		erase(line, place+1)
	}
	parts := 0
	for line := range left {
		for place := range left[line] {
			if left[line][place] == character {
				parts++
				erase(line, place)
			}
		}
	}
	return parts
}

// drawnWall finds what is expected of a maze in its drawing: the parts of the walls are there to see, and so are those of the ways, which are one where the walls have no loop, and one more with each loop.
func drawnWall(m impl.Maze) wallCase {
	lines := drawnLines(m)
	return wallCase{m: m, parts: drawnParts(lines, '#'), loops: drawnParts(lines, ' ') - 1, tree: hasOneWay(m)}
}

// TestWallCasesAsDrawn holds the cases that are written down against their drawings, too.
func TestWallCasesAsDrawn(t *testing.T) {
	for _, c := range wallCases() {
		drawn := drawnWall(c.m)
		drawn.name = c.name
		if drawn != c {
			t.Errorf("the case is %v, but drawn it is %v", c, drawn)
		}
	}
}

func TestWallAsDrawn(t *testing.T) {
	for _, g := range allGrids() {
		for _, m := range append(someMazes(g), almostPerfectMazes(g)...) {
			checkWall(t, drawnWall(m))
		}
	}
}

// TestPerfectIsWallTree is promise 9: a maze is perfect just if its walls are a tree. It asks every maze of the grids with up to 12 gaps, and samples of the larger ones.
func TestPerfectIsWallTree(t *testing.T) {
	for _, g := range allGrids() {
		perfect := 0
		for _, m := range append(someMazes(g), almostPerfectMazes(g)...) {
			got, want := impl.IsWallTree(m), impl.IsPerfect(m)
			if got != want {
				t.Errorf("IsWallTree(%v) = %v, but IsPerfect is %v", m, got, want)
			}
			if got {
				perfect++
			}
		}
		if perfect == 0 {
			t.Errorf("%v: no maze of those asked is perfect", g)
		}
	}
}

// TestWallTreesOfLargerGrids is promise 9 for every maze of the grids with 17 gaps, of which 2415 are known to be perfect.
func TestWallTreesOfLargerGrids(t *testing.T) {
	for _, g := range []impl.Grid{{Wide: 4, High: 3}, {Wide: 3, High: 4}} {
		trees := 0
		for open := range mazeCount(g) {
			m := impl.Maze{Grid: g, Open: open}
			got := impl.IsWallTree(m)
			if want := impl.IsPerfect(m); got != want {
				t.Errorf("IsWallTree(%v) = %v, but IsPerfect is %v", m, got, want)
			}
			if got {
				trees++
			}
		}
		if trees != 2415 {
			t.Errorf("the walls of %d mazes of %v are trees, want 2415", trees, g)
		}
	}
}

// TestWallsAreDual holds the walls against the ways: each loop of one of them encloses a part of the other one.
func TestWallsAreDual(t *testing.T) {
	for _, g := range allGrids() {
		for _, m := range append(someMazes(g), almostPerfectMazes(g)...) {
			if got, want := impl.WallParts(m), impl.CountLoops(m)+1; got != want {
				t.Errorf("WallParts(%v) = %d, want one more than CountLoops, %d", m, got, want)
			}
			if got, want := impl.WallLoops(m), impl.CountParts(m)-1; got != want {
				t.Errorf("WallLoops(%v) = %d, want one less than CountParts, %d", m, got, want)
			}
		}
	}
}

// TestOneWallPieceMore closes each gap of some mazes: the piece joins two parts of the walls or makes one loop.
func TestOneWallPieceMore(t *testing.T) {
	for _, g := range allGrids() {
		for k := range 20 {
			m := impl.Maze{Grid: g, Open: k * 7654321 % mazeCount(g)}
			for gap := range gapsInOrder(g) {
				opened, closed := withGap(m, gap, true), withGap(m, gap, false)
				joined, looped := impl.WallParts(opened)-impl.WallParts(closed), impl.WallLoops(closed)-impl.WallLoops(opened)
				if bridge := impl.IsBridge(opened, gap); joined+looped != 1 || joined < 0 || looped < 0 || bridge != (looped == 1) {
					t.Errorf("%v: the piece at gap %d joins %d parts and makes %d loops, and as a passage it is a bridge is %v", m, gap, joined, looped, bridge)
				}
			}
		}
	}
}

// TestWallWithoutPassages: all corners are in one part, and each cell but one is a loop of its own.
func TestWallWithoutPassages(t *testing.T) {
	for _, g := range allGrids() {
		cells := g.Wide * g.High
		checkWall(t, wallCase{m: impl.Maze{Grid: g}, parts: 1, loops: cells - 1, tree: cells == 1})
	}
}

// TestWallInFullMaze: each corner that is not at the edge is a part of its own.
func TestWallInFullMaze(t *testing.T) {
	for _, g := range allGrids() {
		inside := (g.Wide - 1) * (g.High - 1)
		checkWall(t, wallCase{m: impl.FullMaze(g), parts: inside + 1, loops: 0, tree: inside == 0})
	}
}

// TestWallAtEveryGap closes each gap of each grid alone, and opens each one alone.
func TestWallAtEveryGap(t *testing.T) {
	for _, g := range allGrids() {
		for gap := range gapsInOrder(g) {
			checkWall(t, drawnWall(withGap(impl.Maze{Grid: g}, gap, true)))
			checkWall(t, drawnWall(withGap(impl.FullMaze(g), gap, false)))
		}
	}
}

func TestWallInBadMazes(t *testing.T) {
	for _, m := range badMazes() {
		checkWall(t, wallCase{m: m})
	}
	checkWall(t, wallCase{m: impl.Maze{}})
}

func TestCountCorners(t *testing.T) {
	// Laid out like gapCounts.
	corners := [4][4]int{{4, 6, 8, 10}, {6, 9, 12, 15}, {8, 12, 16, 20}, {10, 15, 20, 25}}
	for _, g := range allGrids() {
		if got, want := impl.CountCorners(g), corners[g.High-1][g.Wide-1]; got != want {
			t.Errorf("CountCorners(%v) = %d, want %d", g, got, want)
		}
	}
	for _, g := range append(badGrids(), impl.Grid{}) {
		if got := impl.CountCorners(g); got != 0 {
			t.Errorf("CountCorners(%v) = %d, want 0", g, got)
		}
	}
}

func TestCornersOf(t *testing.T) {
	cases := []struct {
		g    impl.Grid
		want []neighborPair
	}{
		{impl.Grid{Wide: 1, High: 1}, nil},
		{impl.Grid{Wide: 2, High: 1}, []neighborPair{{1, 4}}},
		{impl.Grid{Wide: 1, High: 2}, []neighborPair{{2, 3}}},
		{impl.Grid{Wide: 4, High: 1}, []neighborPair{{1, 6}, {2, 7}, {3, 8}}},
		{impl.Grid{Wide: 1, High: 4}, []neighborPair{{2, 3}, {4, 5}, {6, 7}}},
		{impl.Grid{Wide: 2, High: 2}, []neighborPair{{1, 4}, {4, 7}, {3, 4}, {4, 5}}},
		{impl.Grid{Wide: 3, High: 2}, []neighborPair{{1, 5}, {2, 6}, {5, 9}, {6, 10}, {4, 5}, {5, 6}, {6, 7}}},
		{impl.Grid{Wide: 2, High: 3}, []neighborPair{{1, 4}, {4, 7}, {7, 10}, {3, 4}, {4, 5}, {6, 7}, {7, 8}}},
		{impl.Grid{Wide: 4, High: 4}, []neighborPair{
			{1, 6}, {2, 7}, {3, 8}, {6, 11}, {7, 12}, {8, 13}, {11, 16}, {12, 17}, {13, 18}, {16, 21}, {17, 22}, {18, 23},
			{5, 6}, {6, 7}, {7, 8}, {8, 9}, {10, 11}, {11, 12}, {12, 13}, {13, 14}, {15, 16}, {16, 17}, {17, 18}, {18, 19},
		}},
	}
	for _, c := range cases {
		if got := impl.CountGaps(c.g); got != len(c.want) {
			t.Errorf("CountGaps(%v) = %d, want %d", c.g, got, len(c.want))
		}
		for gap, want := range c.want {
			if first, second := impl.CornersOf(c.g, gap); (neighborPair{first, second}) != want {
				t.Errorf("CornersOf(%v, %d) = %d, %d, want %v", c.g, gap, first, second, want)
			}
		}
	}
}

// cornersAround holds the four corners of a cell in ascending order.
func cornersAround(g impl.Grid, cell int) []int {
	var list []int
	for _, y := range []int{cell / g.Wide, cell/g.Wide + 1} {
		for _, x := range []int{cell % g.Wide, cell%g.Wide + 1} {
			list = append(list, y*(g.Wide+1)+x)
		}
	}
	return list
}

// TestCornersOfAreShared: a wall piece stands between the two corners that both cells at the gap have.
func TestCornersOfAreShared(t *testing.T) {
	for _, g := range allGrids() {
		for gap, ends := range gapsInOrder(g) {
			var want []int
			for _, corner := range cornersAround(g, ends.first) {
				if slices.Contains(cornersAround(g, ends.second), corner) {
					want = append(want, corner)
				}
			}
			if first, second := impl.CornersOf(g, gap); !slices.Equal([]int{first, second}, want) {
				t.Errorf("CornersOf(%v, %d) = %d, %d, want %v", g, gap, first, second, want)
			}
		}
	}
}

// TestCornersOfAreDrawn: the wall piece at a gap is drawn halfway between its corners.
func TestCornersOfAreDrawn(t *testing.T) {
	for _, g := range allGrids() {
		full := strings.Join(drawnLines(impl.FullMaze(g)), "")
		for gap := range gapsInOrder(g) {
			first, second := impl.CornersOf(g, gap)
			line := first/(g.Wide+1) + second/(g.Wide+1)
			place := first%(g.Wide+1) + second%(g.Wide+1)
			at := line*(2*g.Wide+1) + place
			want := full[:at] + "#" + full[at+1:]
			if got := strings.Join(drawnLines(withGap(impl.FullMaze(g), gap, false)), ""); got != want {
				t.Errorf("CornersOf(%v, %d) = %d, %d, but the piece is drawn elsewhere", g, gap, first, second)
			}
		}
	}
}

// TestCornersOfNoGap asks for gaps before the first and after the last one.
func TestCornersOfNoGap(t *testing.T) {
	for _, g := range allGrids() {
		n := gapCounts[g.High-1][g.Wide-1]
		for _, gap := range append([]int{-n - 1, -64, -25, -2, -1, n, n + 1, n + 2, 24, 25, 63, 64, 100}, extremeInts...) {
			if gap >= 0 && gap < n {
				continue
			}
			if first, second := impl.CornersOf(g, gap); first != -1 || second != -1 {
				t.Errorf("CornersOf(%v, %d) = %d, %d, want -1, -1", g, gap, first, second)
			}
		}
	}
	for _, g := range append(badGrids(), impl.Grid{}) {
		for gap := -1; gap <= 25; gap++ {
			if first, second := impl.CornersOf(g, gap); first != -1 || second != -1 {
				t.Errorf("CornersOf(%v, %d) = %d, %d, want -1, -1", g, gap, first, second)
			}
		}
	}
}

func TestIsEdgeCorner(t *testing.T) {
	// One string for each row of corners, in which "e" is a corner at the edge and "i" one inside.
	cases := []struct {
		g    impl.Grid
		want string
	}{
		{impl.Grid{Wide: 1, High: 1}, "ee ee"},
		{impl.Grid{Wide: 4, High: 1}, "eeeee eeeee"},
		{impl.Grid{Wide: 1, High: 4}, "ee ee ee ee ee"},
		{impl.Grid{Wide: 2, High: 2}, "eee eie eee"},
		{impl.Grid{Wide: 3, High: 2}, "eeee eiie eeee"},
		{impl.Grid{Wide: 2, High: 3}, "eee eie eie eee"},
		{impl.Grid{Wide: 3, High: 3}, "eeee eiie eiie eeee"},
		{impl.Grid{Wide: 4, High: 2}, "eeeee eiiie eeeee"},
		{impl.Grid{Wide: 2, High: 4}, "eee eie eie eie eee"},
		{impl.Grid{Wide: 4, High: 4}, "eeeee eiiie eiiie eiiie eeeee"},
	}
	for _, c := range cases {
		corners := strings.ReplaceAll(c.want, " ", "")
		if got := impl.CountCorners(c.g); got != len(corners) {
			t.Errorf("CountCorners(%v) = %d, want %d", c.g, got, len(corners))
		}
		for corner := range len(corners) {
			if got, want := impl.IsEdgeCorner(c.g, corner), corners[corner] == 'e'; got != want {
				t.Errorf("IsEdgeCorner(%v, %d) = %v, want %v", c.g, corner, got, want)
			}
		}
	}
}

// TestIsEdgeCornerOfCells: a corner lies inside just if it is one of four cells. So in one row or one column, all of them are at the edge.
func TestIsEdgeCornerOfCells(t *testing.T) {
	for _, g := range allGrids() {
		cellsAt := make([]int, (g.Wide+1)*(g.High+1))
		for cell := range g.Wide * g.High {
			for _, corner := range cornersAround(g, cell) {
				cellsAt[corner]++
			}
		}
		for corner, cells := range cellsAt {
			got, want := impl.IsEdgeCorner(g, corner), cells < 4
			if got != want || !got && (g.Wide == 1 || g.High == 1) {
				t.Errorf("IsEdgeCorner(%v, %d) = %v, want %v", g, corner, got, want)
			}
		}
	}
}

// TestIsEdgeCornerOfNoCorner asks for corners before the first and after the last one.
func TestIsEdgeCornerOfNoCorner(t *testing.T) {
	for _, g := range allGrids() {
		n := (g.Wide + 1) * (g.High + 1)
		for _, corner := range append([]int{-n - 1, -n, -25, -g.Wide - 1, -2, -1, n, n + 1, n + g.Wide, 25, 26, 36, 100}, extremeInts...) {
			if corner >= 0 && corner < n {
				continue
			}
			if impl.IsEdgeCorner(g, corner) {
				t.Errorf("IsEdgeCorner(%v, %d) = true, want false", g, corner)
			}
		}
	}
	for _, g := range append(badGrids(), impl.Grid{}) {
		for corner := -1; corner <= 36; corner++ {
			if impl.IsEdgeCorner(g, corner) {
				t.Errorf("IsEdgeCorner(%v, %d) = true, want false", g, corner)
			}
		}
	}
}
