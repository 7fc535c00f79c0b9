package tests

import (
	"math"
	"math/rand/v2"
	"slices"
	"testing"

	"loop.example/g00990/impl"
)

// bitsOf adds up the powers of 2 of gaps.
func bitsOf(gaps ...int) int {
	sum := 0
	for _, gap := range gaps {
		sum += 1 << gap
	}
	return sum
}

// withoutEach returns, for each of the gaps, which descend, all the other bits.
func withoutEach(open int, gaps ...int) []int {
	var list []int
	for _, gap := range gaps {
		list = append(list, open-1<<gap)
	}
	return list
}

// twoLoops is 4 wide and 2 high; its passages lead around the four cells in the west and around those in the east.
func twoLoops() impl.Maze {
	return impl.Maze{Grid: impl.Grid{Wide: 4, High: 2}, Open: bitsOf(0, 2, 3, 5, 6, 7, 8, 9)}
}

// ringOfTen is 4 wide and 3 high; its 10 passages lead around the two cells in the middle, and more may be given.
func ringOfTen(more ...int) impl.Maze {
	return impl.Maze{Grid: impl.Grid{Wide: 4, High: 3}, Open: bitsOf(0, 1, 2, 6, 7, 8, 9, 12, 13, 16) + bitsOf(more...)}
}

// countCase is a maze, the number of perfect mazes in it, how many of these have a passage at each gap, and Open of each one; nil if there are none or they are not listed.
type countCase struct {
	name  string
	m     impl.Maze
	trees int
	with  []int
	open  []int
}

func countCases() []countCase {
	small, wide, row := impl.Grid{Wide: 2, High: 2}, impl.Grid{Wide: 3, High: 2}, impl.Grid{Wide: 4, High: 1}
	bridged := impl.Maze{Grid: twoLoops().Grid, Open: twoLoops().Open + 2}
	spoked := impl.Maze{Grid: crossMaze().Grid, Open: 4095 - bitsOf(3, 7, 10)}
	ring := []int{16, 13, 12, 9, 8, 7, 6, 2, 1, 0}
	return []countCase{
		{"one cell", impl.FullMaze(impl.Grid{Wide: 1, High: 1}), 1, nil, []int{0}},
		{"two cells and a wall", impl.Maze{Grid: impl.Grid{Wide: 2, High: 1}}, 0, []int{0}, nil},
		{"two cells and a passage", impl.Maze{Grid: impl.Grid{Wide: 1, High: 2}, Open: 1}, 1, []int{1}, []int{1}},
		{"a row", impl.FullMaze(row), 1, []int{1, 1, 1}, []int{7}},
		{"a column", impl.FullMaze(impl.Grid{Wide: 1, High: 4}), 1, []int{1, 1, 1}, []int{7}},
		{"a row in two halves", impl.Maze{Grid: row, Open: 5}, 0, []int{0, 0, 0}, nil},
		{"no passages", impl.Maze{Grid: small}, 0, alike(4, 0), nil},
		{"no passages in the largest grid", impl.Maze{Grid: impl.Grid{Wide: 4, High: 4}}, 0, alike(24, 0), nil},
		{"a perfect maze", impl.Maze{Grid: small, Open: 13}, 1, []int{1, 0, 1, 1}, []int{13}},
		{"one loop", impl.FullMaze(small), 4, []int{3, 3, 3, 3}, []int{7, 11, 13, 14}},
		{"two bends", bentMaze(), 0, alike(7, 0), nil},
		{"a loop and two cells apart", impl.Maze{Grid: wide, Open: 53}, 0, alike(7, 0), nil},
		{"as many passages as a perfect maze, but a loop", impl.Maze{Grid: wide, Open: 55}, 0, alike(7, 0), nil},
		{"a loop with a tail", impl.Maze{Grid: wide, Open: 119}, 4, []int{3, 4, 3, 0, 3, 3, 4}, []int{87, 103, 115, 118}},
		{"a loop of six cells", impl.Maze{Grid: wide, Open: 95}, 6, []int{5, 5, 5, 5, 5, 0, 5}, []int{31, 79, 87, 91, 93, 94}},
		{"two loops side by side", impl.FullMaze(wide), 15, []int{11, 11, 11, 11, 11, 9, 11}, []int{31, 47, 59, 62, 79, 87, 91, 93, 94, 103, 109, 115, 118, 121, 124}},
		{"two loops apart", twoLoops(), 0, alike(10, 0), nil},
		{"two loops and a bridge", bridged, 16, []int{12, 16, 12, 12, 0, 12, 12, 12, 12, 12}, []int{367, 431, 487, 494, 623, 687, 743, 750, 847, 875, 911, 939, 967, 974, 995, 1002}},
		{"a cross and four corners", crossMaze(), 0, alike(12, 0), nil},
		{"a loop of eight cells and the one in the middle", spoked, 8, []int{7, 7, 8, 0, 7, 7, 7, 0, 7, 7, 0, 7}, []int{887, 2423, 2679, 2871, 2903, 2919, 2933, 2934}},
		{"eleven passages, two cells apart", ringOfTen(4), 0, alike(17, 0), nil},
		{"twelve passages, a loop", ringOfTen(3, 4), 10, []int{9, 9, 9, 10, 10, 0, 9, 9, 9, 9, 0, 0, 9, 9, 0, 0, 9}, withoutEach(ringOfTen(3, 4).Open, ring...)},
		{"twelve passages, two loops and a cell apart", ringOfTen(3, 10), 0, alike(17, 0), nil},
		{"thirteen passages, two loops", ringOfTen(3, 4, 5), 55, []int{47, 47, 47, 45, 45, 45, 47, 47, 47, 47, 0, 0, 47, 47, 0, 0, 47}, nil},
		{"twelve passages in four rows", impl.Maze{Grid: impl.Grid{Wide: 4, High: 4}, Open: 4095}, 0, alike(24, 0), nil},
		{"row by row", rowByRow(), 1, append(alike(12, 1), 0, 0, 0, 1, 1, 0, 0, 0, 0, 0, 0, 1), nil},
	}
}

// checkCount holds each function that looks at a maze against what is expected of it.
func checkCount(t *testing.T, c countCase) {
	t.Helper()
	if got := impl.CountTrees(c.m); got != c.trees {
		t.Errorf("CountTrees(%v) = %d, want %d", c.m, got, c.trees)
	}
	for gap := range gapsInOrder(c.m.Grid) {
		if got := impl.CountWith(c.m, gap); got != c.with[gap] {
			t.Errorf("CountWith(%v, %d) = %d, want %d", c.m, gap, got, c.with[gap])
		}
	}
	var want []impl.Maze
	for _, open := range c.open {
		want = append(want, impl.Maze{Grid: c.m.Grid, Open: open})
	}
	if got := impl.ListTrees(c.m); !slices.Equal(got, want) {
		t.Errorf("ListTrees(%v) = %v, want %v", c.m, got, want)
	}
}

func TestCountCases(t *testing.T) {
	for _, c := range countCases() {
		t.Run(c.name, func(t *testing.T) { checkCount(t, c) })
	}
}

// TestCountFullMazes has the number of perfect mazes of each grid.
func TestCountFullMazes(t *testing.T) {
	trees := [4][4]int{{1, 1, 1, 1}, {1, 4, 15, 56}, {1, 15, 192, 2415}, {1, 56, 2415, 100352}}
	for _, g := range allGrids() {
		m := impl.FullMaze(g)
		want := trees[g.High-1][g.Wide-1]
		if got := impl.CountTrees(m); got != want {
			t.Errorf("CountTrees(%v) = %d, want %d", m, got, want)
		}
		if got := impl.CountFixed(g, 0, 0); got != want {
			t.Errorf("CountFixed(%v, 0, 0) = %d, want %d", g, got, want)
		}
		checkCount(t, drawnCount(m))
	}
}

// passes returns whether a gap may be a wall and whether it may be a passage.
func passes(gap, chosen, banned int) []bool {
	var list []bool
	if !isDrawnOpen(impl.Maze{Open: chosen}, gap) {
		list = append(list, false)
	}
	if !isDrawnOpen(impl.Maze{Open: banned}, gap) {
		list = append(list, true)
	}
	return list
}

// columnParts has, for each column, the part of its latest cell, counted from 1 on; 0 without a cell.
type columnParts [4]int

// withCell adds a cell to a column, and reports whether that forms no loop and cuts no part off.
func (parts columnParts) withCell(column int, north, west bool) (columnParts, bool) {
	const fresh = 9
	above := parts[column]
	if !north {
		parts[column] = fresh
	}
	if above > 0 && !slices.Contains(parts[:], above) {
		return columnParts{}, false
	}
	if west {
		from, to := parts[column], parts[column-1]
		if from == to {
			return columnParts{}, false
		}
		for i, part := range parts {
			if part == from {
				parts[i] = to
			}
		}
	}
	return parts.renumbered(), true
}

// renumbered counts the parts in the order of their first columns.
func (parts columnParts) renumbered() columnParts {
	var seen []int
	for i, part := range parts {
		if part == 0 {
			continue
		}
		if !slices.Contains(seen, part) {
			seen = append(seen, part)
		}
		parts[i] = slices.Index(seen, part) + 1
	}
	return parts
}

// sweptCount counts, without any determinant, the perfect mazes of a grid with all chosen passages and none of the banned ones. It adds cell by cell, and knows how many forests there are for each way in which the latest cells of the columns can be joined.
func sweptCount(g impl.Grid, chosen, banned int) int {
	numbers := map[neighborPair]int{}
	for gap, ends := range gapsInOrder(g) {
		numbers[ends] = gap
	}
	// At the edge there is a wall in any case.
	choices := func(first, second int, atEdge bool) []bool {
		if gap, ok := numbers[neighborPair{first, second}]; ok && !atEdge {
			return passes(gap, chosen, banned)
		}
		return []bool{false}
	}
	forests := map[columnParts]int{{}: 1}
	for cell := range g.Wide * g.High {
		next := map[columnParts]int{}
		for parts, number := range forests {
			for _, north := range choices(cell-g.Wide, cell, cell < g.Wide) {
				for _, west := range choices(cell-1, cell, cell%g.Wide == 0) {
					if after, ok := parts.withCell(cell%g.Wide, north, west); ok {
						next[after] += number
					}
				}
			}
		}
		forests = next
	}
	var whole columnParts
	for column := range g.Wide {
		whole[column] = 1
	}
	return forests[whole]
}

// sweptTrees counts the perfect mazes in a maze, and those with a passage at a gap as well.
func sweptTrees(m impl.Maze, gaps ...int) int {
	chosen := bitsOf(gaps...)
	walls := mazeCount(m.Grid) - 1 - m.Open
	if chosen&walls != 0 {
		return 0
	}
	return sweptCount(m.Grid, chosen, walls)
}

// painted is a maze without loops in which the cells of each part have the same color.
type painted struct {
	open   int
	colors [16]int
}

// drawnTrees lists the perfect mazes in a maze in ascending order: each passage is added to all the mazes without it in which its ends have different colors.
func drawnTrees(m impl.Maze) []int {
	forests := make([]painted, 1)
	for cell := range forests[0].colors {
		forests[0].colors[cell] = cell
	}
	cells := m.Grid.Wide * m.Grid.High
	for gap, ends := range gapsInOrder(m.Grid) {
		if !isDrawnOpen(m, gap) {
			continue
		}
		for _, forest := range forests {
			from, to := forest.colors[ends.first], forest.colors[ends.second]
			if from == to {
				continue
			}
			forest.open += bitsOf(gap)
			for cell, color := range forest.colors {
				if color == from {
					forest.colors[cell] = to
				}
			}
			forests = append(forests, forest)
		}
	}
	var list []int
	for _, forest := range forests {
		if slices.Max(forest.colors[:cells]) == slices.Min(forest.colors[:cells]) {
			list = append(list, forest.open)
		}
	}
	return list
}

// passagesIn counts the open gaps of a maze.
func passagesIn(m impl.Maze) int {
	n := 0
	for gap := range gapsInOrder(m.Grid) {
		if isDrawnOpen(m, gap) {
			n++
		}
	}
	return n
}

// drawnCount finds what is expected of a maze by sweeping and painting.
func drawnCount(m impl.Maze) countCase {
	c := countCase{m: m, trees: sweptTrees(m)}
	for gap := range gapsInOrder(m.Grid) {
		c.with = append(c.with, sweptTrees(m, gap))
	}
	if passagesIn(m) <= 12 && c.trees > 0 {
		c.open = drawnTrees(m)
	}
	return c
}

// countMazes holds mazes of a grid: all of a small one, and of a large one some of several parts, perfect ones and such with one gap changed, and some with few and with many loops.
func countMazes(g impl.Grid) []impl.Maze {
	if mazeCount(g) <= 4096 {
		return someMazes(g)
	}
	list := append(someMazes(g), almostPerfectMazes(g)...)
	r := rand.New(rand.NewPCG(12, uint64(mazeCount(g))))
	for k := range 120 {
		m := drawnKruskal(g, shuffledOrder(g, k))
		few := m
		for range k % 5 {
			few = withGap(few, r.IntN(passagesIn(impl.FullMaze(g))), true)
		}
		m.Open |= r.IntN(mazeCount(g))
		list = append(list, few, m, withGap(m, r.IntN(passagesIn(impl.FullMaze(g))), false))
	}
	return list
}

func TestCountAsDrawn(t *testing.T) {
	for _, g := range allGrids() {
		for _, m := range countMazes(g) {
			checkCount(t, drawnCount(m))
		}
	}
}

// TestAnyMinorCountsPerfectMazes is promise 12: whatever row is left out, the determinant is the number of perfect mazes, and that is the number of those that are listed.
func TestAnyMinorCountsPerfectMazes(t *testing.T) {
	for _, g := range allGrids() {
		apart, single, several, listed := 0, 0, 0, 0
		for _, m := range countMazes(g) {
			trees := impl.CountTrees(m)
			a := impl.LaplaceOf(m)
			for k := range a {
				if got := impl.Determinant(impl.WithoutRow(a, k)); got != trees {
					t.Errorf("%v: without row %d, the determinant is %d, but CountTrees is %d", m, k, got, trees)
				}
			}
			if list := impl.ListTrees(m); impl.CountPassages(m) <= 12 && len(list) != trees {
				t.Errorf("CountTrees(%v) = %d, but ListTrees has %d mazes", m, trees, len(list))
			} else if len(list) > 0 {
				listed++
			}
			if impl.IsConnected(m) != (trees > 0) {
				t.Errorf("CountTrees(%v) = %d, but IsConnected is %v", m, trees, impl.IsConnected(m))
			}
			switch {
			case trees == 0:
				apart++
			case trees == 1:
				single++
			default:
				several++
			}
		}
		cells := g.Wide * g.High
		if (apart == 0) != (cells == 1) || single == 0 || (several == 0) != (g.Wide == 1 || g.High == 1) || (listed == 0) != (cells > 13) {
			t.Errorf("%v: %d mazes of several parts, %d with one perfect maze, %d with several, and %d with a list", g, apart, single, several, listed)
		}
	}
}

// TestListedMazes: each maze of a list is perfect, has only passages of the given one, and has a greater Open than the one before it.
func TestListedMazes(t *testing.T) {
	for _, g := range allGrids() {
		for _, m := range countMazes(g) {
			before := -1
			for _, tree := range impl.ListTrees(m) {
				if tree.Grid != g || tree.Open <= before || tree.Open&^m.Open != 0 || !impl.IsPerfect(tree) {
					t.Errorf("ListTrees(%v) has %v after one with %d", m, tree, before)
				}
				before = tree.Open
			}
		}
	}
}

// TestListLimit looks at mazes of each number of passages: only those with at most 12 have a list.
func TestListLimit(t *testing.T) {
	for _, g := range allGrids() {
		gaps := len(gapsInOrder(g))
		for k := range 20 {
			order := shuffledOrder(g, k)
			m := drawnKruskal(g, order)
			for _, gap := range order {
				if passagesIn(m) > 12 {
					if got := impl.ListTrees(m); got != nil {
						t.Errorf("ListTrees(%v) = %v, want nil for %d passages", m, got, passagesIn(m))
					}
				} else if got := impl.ListTrees(m); len(got) == 0 || len(got) != sweptTrees(m) {
					t.Errorf("ListTrees(%v) has %d mazes, want %d", m, len(got), sweptTrees(m))
				}
				m = withGap(m, gap, true)
			}
			if passagesIn(m) != gaps {
				t.Errorf("%v has %d passages, want %d", m, passagesIn(m), gaps)
			}
		}
	}
}

// TestPassagesOfAllTogether: each perfect maze has one passage less than cells, and a passage that all of them have is a bridge.
func TestPassagesOfAllTogether(t *testing.T) {
	for _, g := range allGrids() {
		for _, m := range countMazes(g) {
			trees, sum := impl.CountTrees(m), 0
			for gap := range gapsInOrder(g) {
				with := impl.CountWith(m, gap)
				sum += with
				if isAll := with == trees && trees > 0; isAll != (trees > 0 && impl.IsBridge(m, gap)) {
					t.Errorf("CountWith(%v, %d) = %d of %d, but IsBridge is %v", m, gap, with, trees, impl.IsBridge(m, gap))
				}
				if none := with == 0; trees > 0 && none == impl.IsPassage(m, gap) {
					t.Errorf("CountWith(%v, %d) = %d of %d, but IsPassage is %v", m, gap, with, trees, impl.IsPassage(m, gap))
				}
			}
			if want := trees * (g.Wide*g.High - 1); sum != want {
				t.Errorf("CountWith(%v) adds up to %d over all gaps, want %d", m, sum, want)
			}
		}
	}
}

// fixedCase is a grid, gaps that must be passages or walls, and the number of perfect mazes with these.
type fixedCase struct {
	name           string
	g              impl.Grid
	chosen, banned int
	want           int
}

func fixedCases() []fixedCase {
	small, wide, row, large := impl.Grid{Wide: 2, High: 2}, impl.Grid{Wide: 3, High: 2}, impl.Grid{Wide: 4, High: 1}, impl.Grid{Wide: 4, High: 4}
	rows, inRow := 4095, bitsOf(15, 16, 23)
	// Nine gaps lead from the five cells of this part to other ones.
	wideOpen := bitsOf(6, 7, 8, 21)
	return []fixedCase{
		{"one cell", impl.Grid{Wide: 1, High: 1}, 0, 0, 1},
		{"a row", row, 0, 0, 1},
		{"a row, a gap chosen", row, 2, 0, 1},
		{"a row, all gaps chosen", row, 7, 0, 1},
		{"a row, a gap banned", row, 0, 2, 0},
		{"a row, two chosen and one banned", row, 5, 2, 0},
		{"a column, all gaps chosen", impl.Grid{Wide: 1, High: 4}, 7, 0, 1},
		{"a column, all gaps banned", impl.Grid{Wide: 1, High: 4}, 0, 7, 0},
		{"nothing chosen and nothing banned", small, 0, 0, 4},
		{"one gap chosen", small, 1, 0, 3},
		{"two gaps chosen", small, 3, 0, 2},
		{"two gaps at a cell chosen", small, 5, 0, 2},
		{"three gaps chosen", small, 13, 0, 1},
		{"all gaps chosen", small, 15, 0, 0},
		{"one gap banned", small, 0, 4, 1},
		{"two gaps banned that part the rows", small, 0, 12, 0},
		{"two gaps banned that part a cell", small, 0, 5, 0},
		{"all gaps banned", small, 0, 15, 0},
		{"one gap chosen and one banned", small, 8, 1, 1},
		{"all gaps but one chosen, and this one banned", small, 7, 8, 1},
		{"all gaps but one banned, and this one chosen", small, 8, 7, 0},
		{"each gap chosen or banned", small, 10, 5, 0},
		{"six cells", wide, 0, 0, 15},
		{"three sides of a square chosen", wide, 21, 0, 3},
		{"three sides of a square chosen and the fourth banned", wide, 21, 32, 3},
		{"all sides of a square chosen", wide, 53, 0, 0},
		{"all sides of a square chosen and others banned", wide, 53, 66, 0},
		{"all sides of a square chosen and the others too", wide, 127, 0, 0},
		{"the loop around a wall chosen", wide, 95, 32, 0},
		{"the loop around a wall chosen but for one gap", wide, 31, 96, 1},
		{"two rows chosen", wide, 15, 0, 3},
		{"two rows chosen and two gaps between them", wide, 63, 0, 0},
		{"the middle gap chosen", wide, 32, 0, 9},
		{"the middle gap banned", wide, 0, 32, 6},
		{"the largest grid", large, 0, 0, 100352},
		{"all gaps of the largest grid chosen", large, 1<<24 - 1, 0, 0},
		{"all gaps of the largest grid banned", large, 0, 1<<24 - 1, 0},
		{"four rows chosen", large, rows, 0, 64},
		{"four rows chosen and the first column banned", large, rows, bitsOf(12, 16, 20), 27},
		{"four rows chosen and one way between them", large, rows + inRow, 0, 1},
		{"four rows and one way between them, and all others banned", large, rows + inRow, 1<<24 - 1 - rows - inRow, 1},
		{"four rows banned", large, 0, rows, 0},
		{"four columns chosen", large, 1<<24 - 1 - rows, 0, 64},
		{"the gaps between two rows banned", large, 0, bitsOf(16, 17, 18, 19), 0},
		{"the gaps between two rows banned but for one", large, 0, bitsOf(16, 17, 19), 56 * 56},
		{"both gaps of the cell 0 banned", large, 0, bitsOf(0, 12), 0},
		{"a part with nine gaps around it chosen", large, wideOpen, 0, 7810},
		{"a part with nine gaps around it chosen and five of these banned", large, wideOpen, bitsOf(9, 10, 16, 17, 18), 168},
	}
}

func TestFixedCases(t *testing.T) {
	for _, c := range fixedCases() {
		t.Run(c.name, func(t *testing.T) {
			if got := impl.CountFixed(c.g, c.chosen, c.banned); got != c.want {
				t.Errorf("CountFixed(%v, %d, %d) = %d, want %d", c.g, c.chosen, c.banned, got, c.want)
			}
			if got := sweptCount(c.g, c.chosen, c.banned); got != c.want {
				t.Errorf("swept, %v has %d perfect mazes with %d and without %d, want %d", c.g, got, c.chosen, c.banned, c.want)
			}
		})
	}
}

// checkFixed holds the number of perfect mazes with chosen and banned gaps against the one that sweeping finds.
func checkFixed(t *testing.T, g impl.Grid, chosen, banned int) {
	t.Helper()
	if got, want := impl.CountFixed(g, chosen, banned), sweptCount(g, chosen, banned); got != want {
		t.Errorf("CountFixed(%v, %d, %d) = %d, want %d", g, chosen, banned, got, want)
	}
}

// TestFixedInSmallGrids has every choice of chosen and banned gaps, common ones among them.
func TestFixedInSmallGrids(t *testing.T) {
	for _, g := range allGrids() {
		if mazeCount(g) > 128 {
			continue
		}
		for chosen := range mazeCount(g) {
			for banned := range mazeCount(g) {
				checkFixed(t, g, chosen, banned)
			}
		}
	}
}

// fixedPairs holds chosen and banned gaps of a large grid: parts of a perfect maze and of the other gaps, few gaps and many, forests and loops.
func fixedPairs(g impl.Grid) [][2]int {
	all := mazeCount(g) - 1
	r := rand.New(rand.NewPCG(1212, uint64(all)))
	var list [][2]int
	for k := range 300 {
		tree := drawnKruskal(g, shuffledOrder(g, k)).Open
		half, quarter := r.IntN(all+1), r.IntN(all+1)&r.IntN(all+1)
		list = append(list,
			[2]int{tree & half, (all - tree) & half},
			[2]int{tree & half, (all - tree) & quarter},
			[2]int{tree & quarter, all &^ tree & half},
			[2]int{tree &^ quarter, 0},
			[2]int{tree, all - tree},
			[2]int{quarter, (all - quarter) & half},
			[2]int{quarter, (all - quarter) & r.IntN(all+1) & r.IntN(all+1)},
			[2]int{half, all - half},
			[2]int{0, quarter},
			[2]int{quarter, 0},
		)
	}
	return list
}

// TestFixedInLargeGrids also expects that the perfect mazes with some gaps fixed are just those with a passage at one more gap and those with a wall there.
func TestFixedInLargeGrids(t *testing.T) {
	for _, g := range allGrids() {
		if mazeCount(g) <= 128 {
			continue
		}
		for _, fixed := range fixedPairs(g) {
			chosen, banned := fixed[0], fixed[1]
			checkFixed(t, g, chosen, banned)
			number := impl.CountFixed(g, chosen, banned)
			for gap := range gapsInOrder(g) {
				power := bitsOf(gap)
				if (chosen|banned)&power != 0 {
					continue
				}
				passage, wall := impl.CountFixed(g, chosen|power, banned), impl.CountFixed(g, chosen, banned|power)
				if passage+wall != number {
					t.Errorf("CountFixed(%v, %d, %d) = %d, but with gap %d it is %d and without %d", g, chosen, banned, number, gap, passage, wall)
				}
			}
		}
	}
}

// TestFixedIsOnePerfectMaze chooses or bans each gap: that leaves just one maze, which is perfect or not.
func TestFixedIsOnePerfectMaze(t *testing.T) {
	for _, g := range allGrids() {
		for _, m := range countMazes(g) {
			want := 0
			if hasOneWay(m) {
				want = 1
			}
			if got := impl.CountFixed(g, m.Open, mazeCount(g)-1-m.Open); got != want {
				t.Errorf("CountFixed(%v, %d, all others) = %d, want %d", g, m.Open, got, want)
			}
		}
	}
}

// TestFixedIsCountOfMaze: banned gaps count like those that are walls in a maze, and one chosen gap like CountWith.
func TestFixedIsCountOfMaze(t *testing.T) {
	for _, g := range allGrids() {
		for _, m := range countMazes(g) {
			walls := mazeCount(g) - 1 - m.Open
			if got, want := impl.CountFixed(g, 0, walls), impl.CountTrees(m); got != want {
				t.Errorf("CountFixed(%v, 0, %d) = %d, but CountTrees(%v) = %d", g, walls, got, m, want)
			}
			for gap := range gapsInOrder(g) {
				if got, want := impl.CountFixed(g, bitsOf(gap), walls), impl.CountWith(m, gap); got != want {
					t.Errorf("CountFixed(%v, %d, %d) = %d, but CountWith(%v, %d) = %d", g, bitsOf(gap), walls, got, m, gap, want)
				}
			}
		}
	}
}

func TestFixedOutOfRange(t *testing.T) {
	for _, g := range allGrids() {
		n := mazeCount(g)
		for _, bad := range append([]int{-1, -2, -n, -n - 1, n, n + 1, 2*n - 1, 2 * n, 1 << 24, 1<<25 - 1, 1 << 63 / 2}, extremeInts...) {
			for _, other := range []int{0, n - 1, bad, -bad, ^bad, n - 1 - bad} {
				if got := impl.CountFixed(g, bad, other); got != 0 {
					t.Errorf("CountFixed(%v, %d, %d) = %d, want 0", g, bad, other, got)
				}
				if got := impl.CountFixed(g, other, bad); got != 0 {
					t.Errorf("CountFixed(%v, %d, %d) = %d, want 0", g, other, bad, got)
				}
			}
		}
	}
}

// TestFixedWithCommonGap adds a gap of a perfect maze, which may be chosen, to the banned ones, and one of the others, which may be banned, to the chosen ones.
func TestFixedWithCommonGap(t *testing.T) {
	for _, g := range allGrids() {
		all := mazeCount(g) - 1
		for _, m := range perfectMazes(g) {
			for gap := range gapsInOrder(g) {
				power := bitsOf(gap)
				for _, fixed := range [][2]int{{power, power}, {m.Open, (all - m.Open) | power}, {m.Open | power, all - m.Open}, {m.Open, power}, {power, all - m.Open}} {
					if fixed[0]&fixed[1] == 0 {
						continue
					}
					if got := impl.CountFixed(g, fixed[0], fixed[1]); got != 0 {
						t.Errorf("CountFixed(%v, %d, %d) = %d, want 0", g, fixed[0], fixed[1], got)
					}
				}
			}
		}
		if got := impl.CountFixed(g, all, all); all > 0 && got != 0 {
			t.Errorf("CountFixed(%v, %d, %d) = %d, want 0", g, all, all, got)
		}
	}
}

func TestCountInBadGrids(t *testing.T) {
	for _, g := range badGrids() {
		for _, chosen := range []int{0, 1, 2, 1<<24 - 1, -1, math.MinInt, math.MaxInt} {
			for _, banned := range []int{0, 1, 4, 1<<24 - 1, -1, math.MinInt, math.MaxInt} {
				if got := impl.CountFixed(g, chosen, banned); got != 0 {
					t.Errorf("CountFixed(%v, %d, %d) = %d, want 0", g, chosen, banned, got)
				}
			}
		}
	}
}

func TestCountInBadMazes(t *testing.T) {
	for _, m := range badMazes() {
		if got := impl.CountTrees(m); got != 0 {
			t.Errorf("CountTrees(%v) = %d, want 0", m, got)
		}
		if got := impl.ListTrees(m); got != nil {
			t.Errorf("ListTrees(%v) = %v, want nil", m, got)
		}
		for _, gap := range append([]int{-1, 0, 1, 2, 3, 11, 23, 24, 62, 63, 64}, extremeInts...) {
			if got := impl.CountWith(m, gap); got != 0 {
				t.Errorf("CountWith(%v, %d) = %d, want 0", m, gap, got)
			}
		}
	}
}

func TestCountWithNoGap(t *testing.T) {
	for _, g := range allGrids() {
		gaps := len(gapsInOrder(g))
		for _, m := range []impl.Maze{impl.FullMaze(g), drawnKruskal(g, shuffledOrder(g, 5)), {Grid: g}} {
			for _, gap := range append([]int{-gaps - 1, -64, -24, -2, -1, gaps, gaps + 1, 24, 25, 62, 63, 64, 65, 1000}, extremeInts...) {
				if got := impl.CountWith(m, gap); got != 0 {
					t.Errorf("CountWith(%v, %d) = %d, want 0", m, gap, got)
				}
			}
		}
	}
}

// TestCountLeavesArgumentsAlone: no function changes a maze, and whoever changes a list changes no later one.
func TestCountLeavesArgumentsAlone(t *testing.T) {
	for _, g := range allGrids() {
		for _, original := range countMazes(g) {
			m, chosen, banned := original, original.Open, mazeCount(g)-1-original.Open
			list := impl.ListTrees(m)
			before := slices.Clone(list)
			impl.CountTrees(m)
			impl.CountFixed(m.Grid, chosen, banned)
			for gap := range gapsInOrder(g) {
				impl.CountWith(m, gap)
			}
			if m != original || chosen != original.Open || banned != mazeCount(g)-1-original.Open || !slices.Equal(list, before) {
				t.Errorf("%v and %v became %v and %v", original, before, m, list)
			}
			for i := range list {
				list[i] = impl.Maze{Open: -1}
			}
			_ = append(list, impl.Maze{Open: -2})
			if got := impl.ListTrees(m); !slices.Equal(got, before) {
				t.Errorf("ListTrees(%v) = %v after its first result was changed, want %v", m, got, before)
			}
		}
	}
}
