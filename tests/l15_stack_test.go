package tests

import (
	"math/rand/v2"
	"slices"
	"testing"

	"loop.example/g00990/impl"
)

// arrowLists reads one list of arrows from each text.
func arrowLists(texts ...string) [][]int {
	lists := [][]int{}
	for _, text := range texts {
		lists = append(lists, turns(text))
	}
	return lists
}

// gridSteps returns, for each cell of a grid, where its neighbors to the north, east, south and west are.
func gridSteps(g impl.Grid) [][4]int {
	return drawnSteps(impl.Maze{Grid: g, Open: mazeCount(g) - 1})
}

// gapsBetween has the gap between each two neighbors, in both orders.
func gapsBetween(g impl.Grid) map[neighborPair]int {
	gaps := map[neighborPair]int{}
	for gap, ends := range gapsInOrder(g) {
		gaps[ends] = gap
		gaps[neighborPair{ends.second, ends.first}] = gap
	}
	return gaps
}

// topMaze opens the gap to which the first arrow of each list points.
func topMaze(g impl.Grid, arrows [][]int) impl.Maze {
	m := impl.Maze{Grid: g}
	steps, gaps := gridSteps(g), gapsBetween(g)
	for cell, list := range arrows {
		if cell > 0 {
			m = withGap(m, gaps[neighborPair{cell, steps[cell][list[0]]}], true)
		}
	}
	return m
}

// loopFrom follows the first arrows from a cell, and returns the cells of the loop if they lead back to it.
func loopFrom(steps [][4]int, arrows [][]int, cell int) []int {
	loop := []int{cell}
	for range arrows {
		last := loop[len(loop)-1]
		if last == 0 {
			return nil
		}
		next := steps[last][arrows[last][0]]
		if next == cell {
			return loop
		}
		loop = append(loop, next)
	}
	return nil
}

// drawnPop takes the first arrows of all loops away, those of the last cells first and without any walk, until there is no loop. It returns the maze and how many arrows of each cell are gone, or false if a cell has none left.
func drawnPop(g impl.Grid, arrows [][]int) (impl.Maze, []int, bool) {
	steps, left, gone := gridSteps(g), slices.Clone(arrows), make([]int, len(arrows))
	for {
		var loop []int
		for cell := len(left) - 1; cell > 0; cell-- {
			if len(left[cell]) == 0 {
				return impl.Maze{}, nil, false
			}
		}
		for cell := len(left) - 1; cell > 0 && loop == nil; cell-- {
			loop = loopFrom(steps, left, cell)
		}
		if loop == nil {
			return topMaze(g, left), gone, true
		}
		for _, cell := range loop {
			left[cell] = left[cell][1:]
			gone[cell]++
		}
	}
}

// sumOf adds up how many arrows of the cells are gone.
func sumOf(gone []int) int {
	sum := 0
	for _, n := range gone {
		sum += n
	}
	return sum
}

// checkPop expects that the arrows make a maze.
func checkPop(t *testing.T, g impl.Grid, arrows [][]int, order []int, want impl.Maze, used int) {
	t.Helper()
	if got, ok := impl.PopMaze(g, arrows, order); !ok || got != want {
		t.Errorf("PopMaze(%v, %v, %v) = %v, %v, want %v, true", g, arrows, order, got, ok, want)
	}
	if got := impl.ArrowsUsed(g, arrows, order); got != used {
		t.Errorf("ArrowsUsed(%v, %v, %v) = %d, want %d", g, arrows, order, got, used)
	}
}

// checkNoPop expects that the arrows make no maze.
func checkNoPop(t *testing.T, g impl.Grid, arrows [][]int, order []int) {
	t.Helper()
	if got, ok := impl.PopMaze(g, arrows, order); ok || got != (impl.Maze{}) {
		t.Errorf("PopMaze(%v, %v, %v) = %v, %v, want the zero Maze, false", g, arrows, order, got, ok)
	}
	if got := impl.ArrowsUsed(g, arrows, order); got != -1 {
		t.Errorf("ArrowsUsed(%v, %v, %v) = %d, want -1", g, arrows, order, got)
	}
}

// checkArrowsOk expects that arrows are valid, or that they are not, and so make no maze.
func checkArrowsOk(t *testing.T, g impl.Grid, arrows [][]int, want bool) {
	t.Helper()
	if got := impl.ArrowsOk(g, arrows); got != want {
		t.Errorf("ArrowsOk(%v, %v) = %v, want %v", g, arrows, got, want)
	}
	if !want {
		checkNoPop(t, g, arrows, nil)
	}
}

// checkArrows is promise 15: whatever cell begins, the arrows make the same perfect maze, as they do without any walk, or none.
func checkArrows(t *testing.T, g impl.Grid, arrows [][]int, orders [][]int) (made bool) {
	t.Helper()
	want, gone, ok := drawnPop(g, arrows)
	for _, order := range orders {
		if ok {
			checkPop(t, g, arrows, order, want, sumOf(gone))
		} else {
			checkNoPop(t, g, arrows, order)
		}
		checkMade(t, g, arrows, order)
	}
	checkArrowsOk(t, g, arrows, true)
	return ok
}

// checkMade expects of a maze that is returned with true that it is perfect, with a passage where one of the arrows of each cell points, and that ArrowsUsed is -1 just if there is none.
func checkMade(t *testing.T, g impl.Grid, arrows [][]int, order []int) {
	t.Helper()
	m, ok := impl.PopMaze(g, arrows, order)
	if used := impl.ArrowsUsed(g, arrows, order); (used == -1) == ok || used < -1 {
		t.Errorf("ArrowsUsed(%v, %v, %v) = %d, but PopMaze returns %v", g, arrows, order, used, ok)
	}
	if !ok {
		return
	}
	if !impl.IsPerfect(m) || m.Grid != g {
		t.Errorf("PopMaze(%v, %v, %v) = %v, true, which is not perfect", g, arrows, order, m)
	}
	for cell, list := range arrows {
		isOpen := func(direction int) bool { return impl.Step(m, cell, direction) >= 0 }
		if cell > 0 && !slices.ContainsFunc(list, isOpen) {
			t.Errorf("PopMaze(%v, %v, %v) = %v, without a passage from %d to where an arrow of it points", g, arrows, order, m, cell)
		}
	}
}

// cellOrders holds orders in which cells of a grid may begin: none, each one alone, all of them forwards, backwards and shuffled, some of them, and some many times.
func cellOrders(r *rand.Rand, g impl.Grid) [][]int {
	n := g.Wide * g.High
	up := countingUp(n)
	down := slices.Clone(up)
	slices.Reverse(down)
	orders := [][]int{nil, {}, up, down, slices.Concat(down, up), slices.Repeat(up, 100/n), alike(100, 0)}
	for _, cell := range up {
		orders = append(orders, []int{cell})
	}
	for range 4 {
		shuffled := r.Perm(n)
		orders = append(orders, shuffled, shuffled[:r.IntN(n)+1], alike(1+r.IntN(100), shuffled[0]))
	}
	long := make([]int, 100)
	for i := range long {
		long[i] = r.IntN(n)
	}
	return append(orders, long)
}

// stackCases has arrows, the cells that begin, the maze and how many arrows are used up.
var stackCases = []struct {
	name       string
	g          impl.Grid
	arrows     []string
	order      []int
	open, used int
}{
	{"one cell", impl.Grid{Wide: 1, High: 1}, []string{""}, nil, 0, 0},
	{"one cell, which begins", impl.Grid{Wide: 1, High: 1}, []string{""}, []int{0, 0}, 0, 0},
	{"two cells in a row", impl.Grid{Wide: 2, High: 1}, []string{"", "W"}, nil, 1, 0},
	{"two cells in a column", impl.Grid{Wide: 1, High: 2}, []string{"", "N"}, []int{1}, 1, 0},
	{"straight along a row", impl.Grid{Wide: 4, High: 1}, []string{"", "W", "W", "W"}, []int{3}, 7, 0},
	{"straight along a column", impl.Grid{Wide: 1, High: 4}, []string{"", "N", "N", "N"}, []int{3}, 7, 0},
	{"to and fro in a row", impl.Grid{Wide: 4, High: 1}, []string{"", "EW", "WW", "W"}, nil, 7, 2},
	{"to and fro in a row, then on", impl.Grid{Wide: 4, High: 1}, []string{"", "EW", "EWW", "WW"}, []int{3}, 7, 4},
	{"to and fro in a column", impl.Grid{Wide: 1, High: 3}, []string{"", "SN", "NN"}, []int{2}, 3, 2},
	{"to and fro again and again", impl.Grid{Wide: 3, High: 1}, []string{"", "EEEEW", "WWWWW"}, []int{2}, 3, 8},
	{"without a loop in a square", impl.Grid{Wide: 2, High: 2}, []string{"", "W", "N", "N"}, nil, 13, 0},
	{"around a square without a loop", impl.Grid{Wide: 2, High: 2}, []string{"", "S", "N", "W"}, []int{1}, 14, 0},
	{"the example of the tests", impl.Grid{Wide: 2, High: 2}, []string{"", "SW", "N", "NW"}, []int{3, 2, 1}, 7, 2},
	{"a loop that the first cell does not come to", impl.Grid{Wide: 2, High: 2}, []string{"", "W", "EN", "WN"}, nil, 13, 2},
	{"two loops through one cell", impl.Grid{Wide: 2, High: 2}, []string{"", "SW", "EN", "NWN"}, nil, 13, 4},
	{"a loop back to where the walk began", impl.Grid{Wide: 3, High: 2}, []string{"", "EW", "SW", "N", "NN", "WN"}, []int{1}, 115, 4},
	{"a loop back to the cell that was just left", impl.Grid{Wide: 3, High: 2}, []string{"", "W", "W", "EN", "WN", "W"}, []int{5}, 59, 2},
	{"a loop back to a cell in between", impl.Grid{Wide: 3, High: 2}, []string{"", "SW", "WW", "E", "EN", "NW"}, []int{3}, 47, 4},
	{"the same loop again with other arrows", impl.Grid{Wide: 3, High: 2}, []string{"", "EEW", "SSW", "N", "NNN", "WWN"}, []int{5}, 115, 8},
	{"the same loop the other way", impl.Grid{Wide: 3, High: 2}, []string{"", "ESW", "SWW", "N", "NEN", "WNN"}, []int{4}, 115, 8},
	{"one loop and then another one", impl.Grid{Wide: 3, High: 2}, []string{"", "SW", "SW", "N", "NN", "NW"}, []int{5}, 59, 4},
	{"a walk that joins the maze of another one", impl.Grid{Wide: 3, High: 2}, []string{"", "W", "W", "N", "W", "W"}, []int{4, 2}, 31, 0},
	{"two arms around the middle", impl.Grid{Wide: 3, High: 3}, []string{"", "W", "W", "N", "E", "N", "N", "W", "W"}, []int{7, 4}, 891, 0},
	{"around the middle and out", impl.Grid{Wide: 4, High: 4}, []string{"", "W", "W", "W", "N", "EN", "SN", "W", "N", "NW", "WN", "W", "N", "N", "N", "N"}, []int{15}, 16085351, 4},
}

func TestStackCases(t *testing.T) {
	r := rand.New(rand.NewPCG(15, 1))
	for _, c := range stackCases {
		t.Run(c.name, func(t *testing.T) {
			arrows, want := arrowLists(c.arrows...), impl.Maze{Grid: c.g, Open: c.open}
			orders := append(cellOrders(r, c.g), c.order)
			checkArrows(t, c.g, arrows, orders)
			for _, order := range orders {
				checkPop(t, c.g, arrows, order, want, c.used)
			}
			if m, gone, ok := drawnPop(c.g, arrows); !ok || m != want || sumOf(gone) != c.used {
				t.Errorf("without walks, %v make %v, %v and use %v up, want %v and %d", c.arrows, m, ok, gone, want, c.used)
			}
		})
	}
}

// shortPopCases has arrows of which some cell has one too few, or none.
var shortPopCases = []struct {
	name   string
	g      impl.Grid
	arrows []string
}{
	{"no arrow in two cells", impl.Grid{Wide: 2, High: 1}, []string{"", ""}},
	{"no arrow at all", impl.Grid{Wide: 4, High: 4}, alikeTexts(16, "")},
	{"no arrow in the first cell of a row", impl.Grid{Wide: 4, High: 1}, []string{"", "", "W", "W"}},
	{"no arrow in a cell in the middle of a column", impl.Grid{Wide: 1, High: 4}, []string{"", "N", "", "N"}},
	{"no arrow in the last cell", impl.Grid{Wide: 2, High: 2}, []string{"", "W", "N", ""}},
	{"to and fro without end", impl.Grid{Wide: 3, High: 1}, []string{"", "E", "W"}},
	{"to and fro to the last arrow of one cell", impl.Grid{Wide: 3, High: 1}, []string{"", "EEE", "WWWW"}},
	{"to and fro to the last arrow of the other one", impl.Grid{Wide: 3, High: 1}, []string{"", "EEEW", "WWW"}},
	{"one arrow too few beside the example", impl.Grid{Wide: 2, High: 2}, []string{"", "S", "N", "N"}},
	{"around the middle and nowhere out", impl.Grid{Wide: 4, High: 4}, []string{"", "W", "W", "W", "N", "E", "S", "W", "N", "N", "W", "W", "N", "N", "N", "N"}},
	{"around the middle, out of one cell only", impl.Grid{Wide: 4, High: 4}, []string{"", "W", "W", "W", "N", "EN", "S", "W", "N", "N", "W", "W", "N", "N", "N", "N"}},
}

func alikeTexts(n int, text string) []string {
	return slices.Repeat([]string{text}, n)
}

func TestTooFewArrows(t *testing.T) {
	r := rand.New(rand.NewPCG(15, 2))
	for _, c := range shortPopCases {
		t.Run(c.name, func(t *testing.T) {
			arrows := arrowLists(c.arrows...)
			checkArrowsOk(t, c.g, arrows, true)
			for _, order := range cellOrders(r, c.g) {
				checkNoPop(t, c.g, arrows, order)
			}
			if m, gone, ok := drawnPop(c.g, arrows); ok {
				t.Errorf("without walks, %v make %v and use %v up", c.arrows, m, gone)
			}
		})
	}
}

// everyArrows checks all arrows of a grid with up to n in each list.
func everyArrows(g impl.Grid, n int, check func(arrows [][]int)) {
	steps := gridSteps(g)
	var further func(arrows [][]int)
	further = func(arrows [][]int) {
		cell := len(arrows)
		if cell == len(steps) {
			check(arrows)
			return
		}
		var ways []int
		for direction, next := range steps[cell] {
			if next >= 0 {
				ways = append(ways, direction)
			}
		}
		everyList(n, ways, func(list []int) { further(append(slices.Clone(arrows), list)) })
	}
	further([][]int{nil})
}

// everyOrder holds all orders in which some of the cells of a grid, or all of them, begin once.
func everyOrder(g impl.Grid) [][]int {
	orders := [][]int{{}}
	for i := 0; i < len(orders); i++ {
		for cell := range g.Wide * g.High {
			if !slices.Contains(orders[i], cell) {
				orders = append(orders, append(slices.Clone(orders[i]), cell))
			}
		}
	}
	return orders
}

// TestEveryOrderOfEveryArrows has all arrows of small grids, up to some length, and all orders in which the cells can begin.
func TestEveryOrderOfEveryArrows(t *testing.T) {
	lengths := map[impl.Grid]int{{Wide: 1, High: 1}: 3, {Wide: 2, High: 1}: 4, {Wide: 1, High: 2}: 4, {Wide: 3, High: 1}: 5, {Wide: 1, High: 3}: 5, {Wide: 2, High: 2}: 2, {Wide: 4, High: 1}: 2, {Wide: 1, High: 4}: 2}
	for g, length := range lengths {
		orders := everyOrder(g)
		everyArrows(g, length, func(arrows [][]int) { checkArrows(t, g, arrows, orders) })
	}
	g := impl.Grid{Wide: 2, High: 2}
	everyArrows(g, 3, func(arrows [][]int) { checkArrows(t, g, arrows, [][]int{nil, {2}, {3, 1}, {3, 2, 1}}) })
	for _, g := range []impl.Grid{{Wide: 3, High: 2}, {Wide: 2, High: 3}} {
		everyArrows(g, 1, func(arrows [][]int) { checkArrows(t, g, arrows, [][]int{nil, {5, 4, 3, 2, 1}, {4, 2, 0}}) })
	}
}

// randomArrows gives each cell other than the cell 0 a number of arrows in the range from least to most.
func randomArrows(r *rand.Rand, g impl.Grid, least, most int) [][]int {
	arrows := [][]int{nil}
	for _, steps := range gridSteps(g)[1:] {
		list := make([]int, 0, most)
		for length := least + r.IntN(most-least+1); len(list) < length; {
			if direction := r.IntN(4); steps[direction] >= 0 {
				list = append(list, direction)
			}
		}
		arrows = append(arrows, list)
	}
	return arrows
}

// manyArrows has arrows for each grid: few of them, which often are too few, and up to 60 in each list.
func manyArrows(r *rand.Rand, n int, check func(g impl.Grid, arrows [][]int)) {
	for _, g := range allGrids() {
		for _, lengths := range [][2]int{{0, 3}, {1, 1}, {1, 4}, {3, 8}, {5, 20}, {20, 60}, {60, 60}} {
			for range n {
				check(g, randomArrows(r, g, lengths[0], lengths[1]))
			}
		}
	}
}

func TestWhateverCellBegins(t *testing.T) {
	r := rand.New(rand.NewPCG(15, 3))
	made := map[impl.Grid][2]int{}
	manyArrows(r, 40, func(g impl.Grid, arrows [][]int) {
		counts := made[g]
		if checkArrows(t, g, arrows, cellOrders(r, g)) {
			counts[0]++
		} else {
			counts[1]++
		}
		made[g] = counts
	})
	for _, g := range allGrids() {
		// The arrows of one cell always make its maze.
		if counts := made[g]; counts[0] < 40 || counts[1] == 0 && g != (impl.Grid{Wide: 1, High: 1}) {
			t.Errorf("the arrows of %v made a maze %d times and none %d times", g, counts[0], counts[1])
		}
	}
}

// TestLastArrowIsNeeded cuts each list behind the last arrow that is needed, which changes nothing, and then takes that one away from one list, which leaves no maze.
func TestLastArrowIsNeeded(t *testing.T) {
	r := rand.New(rand.NewPCG(15, 4))
	manyArrows(r, 10, func(g impl.Grid, arrows [][]int) {
		want, gone, ok := drawnPop(g, arrows)
		if !ok {
			return
		}
		orders := [][]int{nil, r.Perm(g.Wide * g.High), {r.IntN(g.Wide * g.High)}}
		needed := [][]int{nil}
		for cell := 1; cell < len(arrows); cell++ {
			needed = append(needed, slices.Clone(arrows[cell][:gone[cell]+1]))
		}
		for _, order := range orders {
			checkPop(t, g, needed, order, want, sumOf(gone))
		}
		for cell := 1; cell < len(needed); cell++ {
			short := slices.Clone(needed)
			short[cell] = short[cell][:gone[cell]]
			checkArrowsOk(t, g, short, true)
			for _, order := range orders {
				checkNoPop(t, g, short, order)
			}
		}
	})
}

// TestArrowsNobodyComesTo puts arrows behind those that are needed, up to 60 in each list.
func TestArrowsNobodyComesTo(t *testing.T) {
	r := rand.New(rand.NewPCG(15, 5))
	manyArrows(r, 10, func(g impl.Grid, arrows [][]int) {
		want, gone, ok := drawnPop(g, arrows)
		if !ok {
			return
		}
		others := randomArrows(r, g, 60, 60)
		for cell := 1; cell < len(arrows); cell++ {
			more := others[cell][:r.IntN(60-gone[cell])]
			others[cell] = slices.Concat(arrows[cell][:gone[cell]+1], more)
		}
		for _, order := range [][]int{nil, r.Perm(g.Wide * g.High)} {
			checkPop(t, g, others, order, want, sumOf(gone))
		}
	})
}

// arrowsToward has one arrow in each cell other than the cell 0, the one that begins the way to it.
func arrowsToward(m impl.Maze) [][]int {
	arrows := make([][]int, m.Grid.Wide*m.Grid.High)
	for cell := range arrows {
		if cell > 0 {
			arrows[cell] = drawnWays(m, cell)[0][:1]
		}
	}
	return arrows
}

// TestEveryPerfectMaze makes each perfect maze of the smaller grids, and some of the larger ones, with one arrow in each cell, and so without a loop.
func TestEveryPerfectMaze(t *testing.T) {
	r := rand.New(rand.NewPCG(15, 6))
	for _, g := range allGrids() {
		for _, m := range perfectMazes(g) {
			n := g.Wide * g.High
			for _, order := range [][]int{nil, {n - 1}, r.Perm(n)} {
				checkPop(t, g, arrowsToward(m), order, m, 0)
			}
		}
	}
}

// randomLoop returns the cells of a loop that does not pass the cell 0, or nil: two neighbors, or where a walk first meets itself.
func randomLoop(r *rand.Rand, steps [][4]int) []int {
	cells := []int{r.IntN(len(steps))}
	for range 4 * len(steps) {
		last := cells[len(cells)-1]
		next := steps[last][r.IntN(4)]
		switch place := slices.Index(cells, next); {
		case last == 0:
			return nil
		case place >= 0:
			return cells[place:]
		case next >= 0:
			cells = append(cells, next)
		}
	}
	return nil
}

// TestLoopsOnTop lays the arrows of loops on top of those of a perfect maze. They are used up, whatever cell begins, and nothing else is.
func TestLoopsOnTop(t *testing.T) {
	r := rand.New(rand.NewPCG(15, 7))
	for _, g := range allGrids() {
		steps, n := gridSteps(g), g.Wide*g.High
		for k := range 60 {
			m := drawnKruskal(g, shuffledOrder(g, k))
			arrows, used := arrowsToward(m), 0
			for range r.IntN(30) {
				loop := randomLoop(r, steps)
				used += len(loop)
				for i, cell := range loop {
					next := loop[(i+1)%len(loop)]
					arrows[cell] = slices.Concat([]int{slices.Index(steps[cell][:], next)}, arrows[cell])
				}
			}
			for _, order := range [][]int{nil, {n - 1}, r.Perm(n), r.Perm(n)[:r.IntN(n)+1]} {
				checkPop(t, g, arrows, order, m, used)
			}
		}
	}
}

// TestArrowLimit goes to and fro until the 60th arrow is needed. A list of 61 is not valid, even if only its first arrow were needed.
func TestArrowLimit(t *testing.T) {
	g := impl.Grid{Wide: 3, High: 1}
	for n := range 60 {
		toAndFro := [][]int{nil, append(alike(n, impl.East), impl.West), alike(n+1, impl.West)}
		for _, order := range [][]int{nil, {1}, {2}, {2, 1}, {0, 1, 2}} {
			checkPop(t, g, toAndFro, order, impl.FullMaze(g), 2*n)
		}
	}
	for _, n := range []int{59, 60} {
		for _, order := range [][]int{nil, {1}, {2}} {
			checkNoPop(t, g, [][]int{nil, alike(n, impl.East), alike(60, impl.West)}, order)
		}
	}
	for _, g := range allGrids() {
		arrows := arrowsToward(drawnKruskal(g, shuffledOrder(g, 1)))
		want, _, _ := drawnPop(g, arrows)
		for cell := 1; cell < len(arrows); cell++ {
			for _, n := range []int{59, 60, 61, 62, 120, 1000} {
				longer := slices.Clone(arrows)
				longer[cell] = alike(n, arrows[cell][0])
				checkArrowsOk(t, g, longer, n <= 60)
				if n <= 60 {
					checkPop(t, g, longer, []int{cell}, want, 0)
				}
			}
		}
	}
}

// TestOrderLimit has orders of 100 cells, and of more, which are too long even if they only have the cell 0.
func TestOrderLimit(t *testing.T) {
	r := rand.New(rand.NewPCG(15, 8))
	for _, g := range allGrids() {
		arrows, n := randomArrows(r, g, 60, 60), g.Wide*g.High
		want, gone, ok := drawnPop(g, arrows)
		for !ok {
			arrows = randomArrows(r, g, 60, 60)
			want, gone, ok = drawnPop(g, arrows)
		}
		for _, length := range []int{98, 99, 100, 101, 102, 200, 1000} {
			for _, order := range [][]int{alike(length, 0), alike(length, n-1), slices.Repeat(r.Perm(n), length/n+1)[:length]} {
				if length <= 100 {
					checkPop(t, g, arrows, order, want, sumOf(gone))
				} else {
					checkNoPop(t, g, arrows, order)
				}
			}
		}
	}
}

// someArrows has arrows for each grid that make a maze, some with loops and arrows to spare, and some that are too few.
func someArrows(check func(g impl.Grid, arrows [][]int)) {
	r := rand.New(rand.NewPCG(15, 9))
	for _, g := range allGrids() {
		check(g, arrowsToward(drawnKruskal(g, shuffledOrder(g, 2))))
		check(g, randomArrows(r, g, 5, 10))
		check(g, make([][]int, g.Wide*g.High))
	}
}

// TestNumberOfLists has a list too few, a list too many, and none.
func TestNumberOfLists(t *testing.T) {
	someArrows(func(g impl.Grid, arrows [][]int) {
		checkArrowsOk(t, g, arrows, true)
		checkArrowsOk(t, g, nil, false)
		checkArrowsOk(t, g, [][]int{}, false)
		checkArrowsOk(t, g, arrows[:len(arrows)-1], false)
		checkArrowsOk(t, g, arrows[1:], false)
		for _, further := range [][]int{nil, {}, {impl.North}, {impl.West}} {
			checkArrowsOk(t, g, append(slices.Clone(arrows), further), false)
		}
		checkArrowsOk(t, g, append([][]int{nil}, arrows...), false)
		checkArrowsOk(t, g, slices.Concat(arrows, arrows), false)
	})
}

// TestNoArrow puts each number into each place of each list: a direction to a neighbor is one more arrow there, unless the list is that of cell 0, and nothing else is.
func TestNoArrow(t *testing.T) {
	numbers := append([]int{impl.North, impl.East, impl.South, impl.West, -8, -5, -4, -3, -2, -1, 4, 5, 6, 7, 8, 256, 257}, extremeInts...)
	someArrows(func(g impl.Grid, arrows [][]int) {
		for cell, steps := range gridSteps(g) {
			for place := range len(arrows[cell]) + 1 {
				for _, number := range numbers {
					spoiled := slices.Clone(arrows)
					spoiled[cell] = slices.Insert(slices.Clone(arrows[cell]), place, number)
					isArrow := cell > 0 && number >= 0 && number < 4 && steps[number] >= 0
					checkArrowsOk(t, g, spoiled, isArrow)
				}
			}
		}
	})
}

// TestNoCellBegins puts numbers that are no cells into each place of an order, also where the arrows are too few.
func TestNoCellBegins(t *testing.T) {
	someArrows(func(g impl.Grid, arrows [][]int) {
		n := g.Wide * g.High
		for _, number := range append([]int{-n, -2, -1, n, n + 1, 16, 17, 100}, extremeInts...) {
			for _, order := range [][]int{{}, {0}, {n - 1}, countingUp(n), alike(99, 0)} {
				for place := range len(order) + 1 {
					checkNoPop(t, g, arrows, slices.Insert(slices.Clone(order), place, number))
				}
			}
		}
	})
}

// TestArrowsOfBadGrids has as many lists as the width times the height, also if both are negative.
func TestArrowsOfBadGrids(t *testing.T) {
	for _, g := range badGrids() {
		counts := []int{0, 1, 2, 4, 16, 17, 25}
		if n := g.Wide * g.High; n > 0 && n <= 300 {
			counts = append(counts, n)
		}
		for _, n := range counts {
			checkArrowsOk(t, g, make([][]int, n), false)
			if n > 1 {
				checkArrowsOk(t, g, append([][]int{nil}, slices.Repeat([][]int{{impl.West}}, n-1)...), false)
			}
			checkNoPop(t, g, make([][]int, n), []int{0})
			checkNoPop(t, g, make([][]int, n), []int{-1})
		}
	}
}

// sparePop copies arrows and an order with memory to spare behind the lists, behind each list and behind the order.
type sparePop struct {
	arrows, wholeArrows [][]int
	wholeLists          [][]int
	order, wholeOrder   []int
}

func newSparePop(arrows [][]int, order []int) sparePop {
	var s sparePop
	for _, list := range arrows {
		same, whole := withSpare(list)
		s.arrows = append(s.arrows, same)
		s.wholeLists = append(s.wholeLists, whole)
	}
	s.wholeArrows = append(s.arrows, []int{71}, []int{72, 73}, nil)
	s.arrows = s.wholeArrows[:len(arrows)]
	s.order, s.wholeOrder = withSpare(order)
	return s
}

// equals reports whether two of them are the same, with the memory to spare.
func (s sparePop) equals(other sparePop) bool {
	same := func(a, b [][]int) bool { return slices.EqualFunc(a, b, slices.Equal[[]int]) }
	return same(s.wholeArrows, other.wholeArrows) && same(s.wholeLists, other.wholeLists) && slices.Equal(s.wholeOrder, other.wholeOrder)
}

// TestArrowsAreLeftAlone: no function changes its arguments or the memory behind them, and none remembers an earlier call.
func TestArrowsAreLeftAlone(t *testing.T) {
	r := rand.New(rand.NewPCG(15, 10))
	manyArrows(r, 3, func(g impl.Grid, arrows [][]int) {
		orders := append(cellOrders(r, g), []int{0, -1}, []int{g.Wide * g.High, 1}, alike(101, 0))
		for _, order := range orders {
			s, before := newSparePop(arrows, order), newSparePop(arrows, order)
			ok := impl.ArrowsOk(g, s.arrows)
			m, made := impl.PopMaze(g, s.arrows, s.order)
			used := impl.ArrowsUsed(g, s.arrows, s.order)
			if !s.equals(before) {
				t.Errorf("%v: the arrows and the order %v became %v", g, before, s)
			}
			impl.PopMaze(impl.Grid{Wide: 2, High: 2}, arrowLists("", "SW", "N", "NW"), nil)
			again, remade := impl.PopMaze(g, s.arrows, s.order)
			if again != m || remade != made || impl.ArrowsUsed(g, s.arrows, s.order) != used || impl.ArrowsOk(g, s.arrows) != ok {
				t.Errorf("%v: %v in the order %v made %v, %v and then %v, %v", g, arrows, order, m, made, again, remade)
			}
		}
	})
}
