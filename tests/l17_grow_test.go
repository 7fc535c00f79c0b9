package tests

import (
	"math"
	"math/rand/v2"
	"slices"
	"testing"

	"loop.example/g00990/impl"
)

// picked returns what the choice at a place of a list means among n possibilities.
func picked(choices []int, place, n int) int {
	if place >= len(choices) || choices[place] < 0 {
		return 0
	}
	return int(uint64(choices[place]) % uint64(n))
}

// drawnGrow grows a maze by painting: the cells that are painted like cell 0 belong to it. It also returns the numbers that the choices are taken modulo.
func drawnGrow(g impl.Grid, choices []int) (m impl.Maze, moduli []int) {
	m = impl.Maze{Grid: g}
	for len(moduli) < g.Wide*g.High-1 {
		colors := paint(m)
		var around []int
		for gap, ends := range gapsInOrder(g) {
			if (colors[ends.first] == 0) != (colors[ends.second] == 0) {
				around = append(around, gap)
			}
		}
		m = withGap(m, around[picked(choices, len(moduli), len(around))], true)
		moduli = append(moduli, len(around))
	}
	return m, moduli
}

// tableOf returns the rows of cells of a part of a grid.
func tableOf(g impl.Grid, column, row, wide, high int) [][]int {
	var table [][]int
	for y := row; y < row+high; y++ {
		var cells []int
		for x := column; x < column+wide; x++ {
			cells = append(cells, y*g.Wide+x)
		}
		table = append(table, cells)
	}
	return table
}

// wholeTable returns the rows of cells of a grid.
func wholeTable(g impl.Grid) [][]int {
	return tableOf(g, 0, 0, g.Wide, g.High)
}

// sideways exchanges the rows and columns of a table.
func sideways(table [][]int) [][]int {
	var columns [][]int
	for i := range table[0] {
		var column []int
		for _, row := range table {
			column = append(column, row[i])
		}
		columns = append(columns, column)
	}
	return columns
}

// cutTable returns the gaps across which a table of several rows and columns can be divided below one of its rows, or beyond one of its columns if it is wider than high, and the two parts.
func cutTable(g impl.Grid, table [][]int, line int) (gaps []int, first, other [][]int) {
	isWide := len(table[0]) > len(table)
	if isWide {
		table = sideways(table)
	}
	order := gapsInOrder(g)
	for i, cell := range table[line] {
		gaps = append(gaps, slices.Index(order, neighborPair{cell, table[line+1][i]}))
	}
	first, other = table[:line+1], table[line+1:]
	if isWide {
		first, other = sideways(first), sideways(other)
	}
	return gaps, first, other
}

// isDivided reports whether a table has several rows and columns, so that it is divided.
func isDivided(table [][]int) bool {
	return len(table) > 1 && len(table[0]) > 1
}

// drawnDivide divides tables of cells, of which the next one lies on top of a pile. It also returns the gaps of each wall, and the numbers that the choices are taken modulo.
func drawnDivide(g impl.Grid, choices []int) (m impl.Maze, walls [][]int, moduli []int) {
	m = fullMaze(g)
	pile := [][][]int{wholeTable(g)}
	for len(pile) > 0 {
		table := pile[len(pile)-1]
		pile = pile[:len(pile)-1]
		if !isDivided(table) {
			continue
		}
		lines := max(len(table), len(table[0])) - 1
		wall, first, other := cutTable(g, table, picked(choices, len(moduli), lines))
		passage := picked(choices, len(moduli)+1, len(wall))
		for i, gap := range wall {
			m = withGap(m, gap, i == passage)
		}
		walls = append(walls, wall)
		moduli = append(moduli, lines, len(wall))
		pile = append(pile, other, first)
	}
	return m, walls, moduli
}

// growModuli and divideModuli return how many choices are taken, and what modulo.
func growModuli(g impl.Grid, choices []int) []int {
	_, moduli := drawnGrow(g, choices)
	return moduli
}

func divideModuli(g impl.Grid, choices []int) []int {
	_, _, moduli := drawnDivide(g, choices)
	return moduli
}

// waysOfMaking has both ways to a maze, and what the choices of each are taken modulo.
var waysOfMaking = []struct {
	name   string
	mazeOf func(impl.Grid, []int) impl.Maze
	moduli func(impl.Grid, []int) []int
}{
	{"GrowMaze", impl.GrowMaze, growModuli},
	{"DivideMaze", impl.DivideMaze, divideModuli},
}

// checkIsPerfect is promise 17 for one maze: it is one of the same grid, and perfect, with one passage for each cell other than cell 0.
func checkIsPerfect(t *testing.T, name string, g impl.Grid, choices []int, m impl.Maze) {
	t.Helper()
	if m.Grid != g || !impl.IsPerfect(m) || !hasOneWay(m) || passagesIn(m) != g.Wide*g.High-1 {
		t.Errorf("%s(%v, %v) = %v, which is no perfect maze of the grid", name, g, choices, m)
	}
}

// checkGrown expects of a grown maze that it is perfect, with one gap for each cell other than cell 0 through which it was reached, and that it is the drawn one.
func checkGrown(t *testing.T, g impl.Grid, choices []int) {
	t.Helper()
	m := impl.GrowMaze(g, choices)
	checkIsPerfect(t, "GrowMaze", g, choices, m)
	distances := drawnDistances(m)[0]
	opened := make([]int, len(distances))
	for gap, ends := range gapsInOrder(g) {
		if isDrawnOpen(m, gap) && distances[ends.first] < distances[ends.second] {
			opened[ends.second]++
		} else if isDrawnOpen(m, gap) {
			opened[ends.first]++
		}
	}
	if want := append([]int{0}, alike(len(distances)-1, 1)...); !slices.Equal(opened, want) {
		t.Errorf("GrowMaze(%v, %v) = %v, in which the cells are reached through %v gaps, want one for each but cell 0", g, choices, m, opened)
	}
	if want, _ := drawnGrow(g, choices); m != want {
		t.Errorf("GrowMaze(%v, %v) = %v, want %v", g, choices, m, want)
	}
}

// passagesAmong counts which of some gaps are open.
func passagesAmong(m impl.Maze, gaps []int) int {
	n := 0
	for _, gap := range gaps {
		if isDrawnOpen(m, gap) {
			n++
		}
	}
	return n
}

// checkDivided expects of a divided maze that it is perfect, that each wall has just one passage, that no gap is closed where there is no wall, and that it is the drawn one.
func checkDivided(t *testing.T, g impl.Grid, choices []int) {
	t.Helper()
	m := impl.DivideMaze(g, choices)
	checkIsPerfect(t, "DivideMaze", g, choices, m)
	want, walls, _ := drawnDivide(g, choices)
	pieces := 0
	for _, wall := range walls {
		if passages := passagesAmong(m, wall); passages != 1 {
			t.Errorf("DivideMaze(%v, %v) = %v, in which the wall at the gaps %v has %d passages, want 1", g, choices, m, wall, passages)
		}
		pieces += len(wall) - 1
	}
	if closed := len(gapsInOrder(g)) - passagesIn(m); closed != pieces {
		t.Errorf("DivideMaze(%v, %v) = %v, in which %d gaps are closed, want %d in the walls %v", g, choices, m, closed, pieces, walls)
	}
	if m != want {
		t.Errorf("DivideMaze(%v, %v) = %v, want %v", g, choices, m, want)
	}
}

// checkChosen holds both ways to a maze against what they promise and against the drawn mazes.
func checkChosen(t *testing.T, g impl.Grid, choices []int) {
	t.Helper()
	checkGrown(t, g, choices)
	checkDivided(t, g, choices)
}

// lastOfAll is one less than a multiple of each number up to 12, and so the last choice of that many.
const lastOfAll = math.MaxInt - math.MaxInt%27720 - 1

// growCases has choices and the gaps that they open, in this order.
var growCases = []struct {
	name    string
	g       impl.Grid
	choices []int
	opened  []int
}{
	{"one cell", impl.Grid{Wide: 1, High: 1}, nil, nil},
	{"one cell and choices", impl.Grid{Wide: 1, High: 1}, []int{3, -1, 0}, nil},
	{"two cells in a row", impl.Grid{Wide: 2, High: 1}, nil, []int{0}},
	{"two cells in a column", impl.Grid{Wide: 1, High: 2}, []int{1}, []int{0}},
	{"a row", impl.Grid{Wide: 4, High: 1}, []int{2, 1, 5}, []int{0, 1, 2}},
	{"a column", impl.Grid{Wide: 1, High: 4}, []int{7}, []int{0, 1, 2}},
	{"2 x 2, no choices", impl.Grid{Wide: 2, High: 2}, nil, []int{0, 2, 1}},
	{"2 x 2, the first gaps", impl.Grid{Wide: 2, High: 2}, []int{0, 0, 0}, []int{0, 2, 1}},
	{"2 x 2, fewer choices", impl.Grid{Wide: 2, High: 2}, []int{1}, []int{2, 0, 1}},
	{"2 x 2, more choices", impl.Grid{Wide: 2, High: 2}, []int{1, 1, 1, 1, 1}, []int{2, 1, 3}},
	{"2 x 2, one more choice that counts", impl.Grid{Wide: 2, High: 2}, []int{1, 1}, []int{2, 1, 0}},
	{"2 x 2, the last gap first", impl.Grid{Wide: 2, High: 2}, []int{1, 0, 1}, []int{2, 0, 3}},
	{"2 x 2, one less than the number", impl.Grid{Wide: 2, High: 2}, []int{1, 1, 1}, []int{2, 1, 3}},
	{"2 x 2, as large as the number", impl.Grid{Wide: 2, High: 2}, []int{2, 2, 2}, []int{0, 2, 1}},
	{"2 x 2, one more than the number", impl.Grid{Wide: 2, High: 2}, []int{3, 3, 3}, []int{2, 1, 3}},
	{"2 x 2, many times as large", impl.Grid{Wide: 2, High: 2}, []int{2000, 4001, 6001}, []int{0, 3, 2}},
	{"2 x 2, a negative choice", impl.Grid{Wide: 2, High: 2}, []int{-1}, []int{0, 2, 1}},
	{"2 x 2, a negative choice first", impl.Grid{Wide: 2, High: 2}, []int{-1, 1, 1}, []int{0, 3, 2}},
	{"2 x 2, a negative choice in between", impl.Grid{Wide: 2, High: 2}, []int{1, -3, 1}, []int{2, 0, 3}},
	{"2 x 2, a negative choice last", impl.Grid{Wide: 2, High: 2}, []int{1, 1, -1}, []int{2, 1, 0}},
	{"2 x 2, the least integer", impl.Grid{Wide: 2, High: 2}, []int{1, math.MinInt, 1}, []int{2, 0, 3}},
	{"2 x 2, the greatest integer", impl.Grid{Wide: 2, High: 2}, []int{math.MaxInt, math.MaxInt, math.MaxInt}, []int{2, 1, 3}},
	{"3 x 2, no choices", impl.Grid{Wide: 3, High: 2}, nil, []int{0, 1, 4, 2, 3}},
	{"3 x 2, three gaps around", impl.Grid{Wide: 3, High: 2}, []int{0, 2, 1, 0, 1}, []int{0, 5, 2, 1, 6}},
	{"3 x 2, three gaps around, the other way", impl.Grid{Wide: 3, High: 2}, []int{0, 1, 2, 1, 0}, []int{0, 4, 5, 3, 1}},
	{"2 x 3, no choices", impl.Grid{Wide: 2, High: 3}, nil, []int{0, 3, 1, 5, 2}},
	{"2 x 3, down and up", impl.Grid{Wide: 2, High: 3}, []int{1, 2, 1, 2, 1}, []int{3, 5, 1, 6, 4}},
	{"3 x 3, no choices", impl.Grid{Wide: 3, High: 3}, nil, []int{0, 1, 6, 2, 3, 9, 4, 5}},
	{"3 x 3, always the last gap", impl.Grid{Wide: 3, High: 3}, alike(8, lastOfAll), []int{6, 9, 4, 5, 11, 10, 8, 7}},
	{"4 x 4, no choices", impl.Grid{Wide: 4, High: 4}, nil, []int{0, 1, 2, 12, 3, 4, 5, 16, 6, 7, 8, 20, 9, 10, 11}},
}

func TestGrowCases(t *testing.T) {
	for _, c := range growCases {
		t.Run(c.name, func(t *testing.T) {
			if got, want := impl.GrowMaze(c.g, c.choices), (impl.Maze{Grid: c.g, Open: bitsOf(c.opened...)}); got != want {
				t.Errorf("GrowMaze(%v, %v) = %v, want %v", c.g, c.choices, got, want)
			}
			checkChosen(t, c.g, c.choices)
		})
	}
}

// divideCases has choices and the gaps that are closed by the walls, one wall after the other.
var divideCases = []struct {
	name    string
	g       impl.Grid
	choices []int
	closed  []int
}{
	{"one cell", impl.Grid{Wide: 1, High: 1}, nil, nil},
	{"one cell and choices", impl.Grid{Wide: 1, High: 1}, []int{3, -1, 0}, nil},
	{"two cells in a row", impl.Grid{Wide: 2, High: 1}, []int{1, 1}, nil},
	{"two cells in a column", impl.Grid{Wide: 1, High: 2}, []int{1, 1}, nil},
	{"a row", impl.Grid{Wide: 4, High: 1}, []int{2, 1, 5}, nil},
	{"a column", impl.Grid{Wide: 1, High: 4}, []int{7}, nil},
	{"2 x 2, no choices", impl.Grid{Wide: 2, High: 2}, nil, []int{3}},
	{"2 x 2, the first passage", impl.Grid{Wide: 2, High: 2}, []int{0, 0}, []int{3}},
	{"2 x 2, the last passage", impl.Grid{Wide: 2, High: 2}, []int{0, 1}, []int{2}},
	{"2 x 2, fewer choices", impl.Grid{Wide: 2, High: 2}, []int{1}, []int{3}},
	{"2 x 2, more choices", impl.Grid{Wide: 2, High: 2}, []int{0, 0, 1, 1, 1}, []int{3}},
	{"2 x 2, as large as the number", impl.Grid{Wide: 2, High: 2}, []int{1, 2}, []int{3}},
	{"2 x 2, one more than the number", impl.Grid{Wide: 2, High: 2}, []int{2, 3}, []int{2}},
	{"2 x 2, many times as large", impl.Grid{Wide: 2, High: 2}, []int{5000, 4001}, []int{2}},
	{"2 x 2, a negative choice", impl.Grid{Wide: 2, High: 2}, []int{-1}, []int{3}},
	{"2 x 2, a negative choice first", impl.Grid{Wide: 2, High: 2}, []int{-1, 1}, []int{2}},
	{"2 x 2, a negative choice last", impl.Grid{Wide: 2, High: 2}, []int{0, -1}, []int{3}},
	{"2 x 2, the least integer", impl.Grid{Wide: 2, High: 2}, []int{math.MinInt, math.MinInt}, []int{3}},
	{"2 x 2, the greatest integer", impl.Grid{Wide: 2, High: 2}, []int{math.MaxInt, math.MaxInt}, []int{2}},
	{"3 x 2, no choices", impl.Grid{Wide: 3, High: 2}, nil, []int{2, 6}},
	{"3 x 2, beyond the first column", impl.Grid{Wide: 3, High: 2}, []int{0, 1, 0, 1}, []int{0, 5}},
	{"3 x 2, beyond the last column", impl.Grid{Wide: 3, High: 2}, []int{1, 1, 0, 1}, []int{1, 4}},
	{"2 x 3, no choices", impl.Grid{Wide: 2, High: 3}, nil, []int{4, 6}},
	{"2 x 3, below the first row", impl.Grid{Wide: 2, High: 3}, []int{0, 1, 0, 0}, []int{3, 6}},
	{"2 x 3, below the last row", impl.Grid{Wide: 2, High: 3}, []int{1, 1, 0, 0}, []int{5, 4}},
	{"3 x 3, no choices", impl.Grid{Wide: 3, High: 3}, nil, []int{7, 8, 4, 11}},
	{"3 x 3, below the first row", impl.Grid{Wide: 3, High: 3}, []int{0, 1, 1, 1, 0, 1}, []int{6, 8, 3, 9}},
	{"3 x 3, below the last row", impl.Grid{Wide: 3, High: 3}, []int{1, 2, 0, 1, 0, 0}, []int{9, 10, 0, 8}},
	{"3 x 3, negative choices among others", impl.Grid{Wide: 3, High: 3}, []int{1, -2, -1, 1, -1, 1}, []int{10, 11, 0, 7}},
	{"4 x 2, in the middle", impl.Grid{Wide: 4, High: 2}, []int{1, 0, 0, 0, 0, 1}, []int{4, 7, 8}},
	{"4 x 2, in the middle, the other way", impl.Grid{Wide: 4, High: 2}, []int{1, 1, 0, 1, 0, 0}, []int{1, 6, 9}},
	{"2 x 4, in the middle", impl.Grid{Wide: 2, High: 4}, []int{1, 0, 0, 0, 0, 1}, []int{7, 5, 8}},
	{"2 x 4, in the middle, the other way", impl.Grid{Wide: 2, High: 4}, []int{1, 1, 0, 1, 0, 0}, []int{6, 4, 9}},
	{"4 x 3, columns first", impl.Grid{Wide: 4, High: 3}, []int{1, 2, 1, 0, 0, 1, 0, 1, 0, 0}, []int{1, 4, 14, 9, 11, 16}},
	{"3 x 4, rows first", impl.Grid{Wide: 3, High: 4}, []int{1, 2, 1, 0, 0, 1, 0, 1, 0, 0}, []int{11, 12, 3, 8, 4, 16}},
	{"4 x 4, no choices", impl.Grid{Wide: 4, High: 4}, nil, []int{13, 14, 15, 6, 9, 18, 19, 10, 23}},
	{"4 x 4, always the last row and column", impl.Grid{Wide: 4, High: 4}, []int{2, 3, 2, 2, 1, 2, 1, 1, 0, 1}, []int{20, 21, 22, 2, 5, 16, 17, 1, 12}},
	{"4 x 4, the last of all", impl.Grid{Wide: 4, High: 4}, alike(10, lastOfAll), []int{20, 21, 22, 2, 5, 16, 17, 1, 12}},
	{"4 x 4, in the middle", impl.Grid{Wide: 4, High: 4}, []int{1, 2, 0, 1, 0, 0, 0, 1, 2, 0, 1, 1, 0, 0}, []int{16, 17, 19, 0, 4, 14, 11, 7, 21}},
}

func TestDivideCases(t *testing.T) {
	for _, c := range divideCases {
		t.Run(c.name, func(t *testing.T) {
			if got, want := impl.DivideMaze(c.g, c.choices), fullMaze(c.g).Open-bitsOf(c.closed...); got != (impl.Maze{Grid: c.g, Open: want}) {
				t.Errorf("DivideMaze(%v, %v) = %v, want Open to be %d", c.g, c.choices, got, want)
			}
			checkChosen(t, c.g, c.choices)
		})
	}
}

// everyChoosing checks each list of choices none of which is as large as the number that it is taken modulo.
func everyChoosing(moduli func(choices []int) []int, check func(choices []int)) {
	var choices []int
	for {
		numbers := moduli(choices)
		choices = append(choices, make([]int, len(numbers)-len(choices))...)
		check(slices.Clone(choices))
		last := len(choices) - 1
		for last >= 0 && choices[last] == numbers[last]-1 {
			last--
		}
		if last < 0 {
			return
		}
		choices = choices[:last+1]
		choices[last]++
	}
}

// checkTimesMade expects that each perfect maze of a grid was made from as many lists of choices as there are ways to it.
func checkTimesMade(t *testing.T, name string, g impl.Grid, times map[impl.Maze]int, ways func(m impl.Maze) int) {
	t.Helper()
	for _, m := range numberedMazes(g) {
		if want := ways(m); times[m] != want {
			t.Errorf("%s makes %v from %d lists of choices, want %d", name, m, times[m], want)
		}
		delete(times, m)
	}
	if len(times) > 0 {
		t.Errorf("%s makes the mazes %v of %v, which are not perfect", name, times, g)
	}
}

// waysToGrow returns in how many orders the passages of a perfect maze can be opened from cell 0 on: of all orders of the cells but cell 0, one in n has the first of n cells ahead of the others, which are those beyond it.
func waysToGrow(m impl.Maze) int {
	steps := drawnSteps(m)
	orders, divisor := 1, 1
	for n := 2; n < len(steps); n++ {
		orders *= n
	}
	var beyond func(cell, from int) int
	beyond = func(cell, from int) int {
		n := 1
		for _, next := range steps[cell] {
			if next >= 0 && next != from {
				n += beyond(next, cell)
			}
		}
		if cell > 0 {
			divisor *= n
		}
		return n
	}
	beyond(0, -1)
	return orders / divisor
}

// TestEveryGrowing: of the grids with up to nine cells, the lists of choices make all perfect mazes, each as many times as it can be grown in different orders.
func TestEveryGrowing(t *testing.T) {
	for _, g := range allGrids() {
		if g.Wide*g.High > 9 {
			continue
		}
		times := map[impl.Maze]int{}
		everyChoosing(func(choices []int) []int { return growModuli(g, choices) }, func(choices []int) {
			checkGrown(t, g, choices)
			times[impl.GrowMaze(g, choices)]++
		})
		checkTimesMade(t, "GrowMaze", g, times, waysToGrow)
	}
}

// waysToDivide returns in how many ways a perfect maze can be divided: below each row, or beyond each column, across which it has just one passage.
func waysToDivide(m impl.Maze, table [][]int) int {
	if !isDivided(table) {
		return 1
	}
	ways := 0
	for line := range max(len(table), len(table[0])) - 1 {
		wall, first, other := cutTable(m.Grid, table, line)
		if passagesAmong(m, wall) == 1 {
			ways += waysToDivide(m, first) * waysToDivide(m, other)
		}
	}
	return ways
}

// TestEveryDivision: of each grid, the lists of choices make all perfect mazes that can be divided, each as many times as there are ways to divide it.
func TestEveryDivision(t *testing.T) {
	for _, g := range allGrids() {
		times := map[impl.Maze]int{}
		everyChoosing(func(choices []int) []int { return divideModuli(g, choices) }, func(choices []int) {
			checkDivided(t, g, choices)
			times[impl.DivideMaze(g, choices)]++
		})
		checkTimesMade(t, "DivideMaze", g, times, func(m impl.Maze) int { return waysToDivide(m, wholeTable(g)) })
	}
}

// TestEveryShortListOfChoices has all lists of up to three choices, negative ones and such that are too large among them, and longer ones of fewer numbers.
func TestEveryShortListOfChoices(t *testing.T) {
	for _, g := range allGrids() {
		everyList(2, []int{math.MinInt, -5, -1, 0, 1, 2, 3, 4, 5, 6, 7, 8, 9, 12, math.MaxInt}, func(choices []int) { checkChosen(t, g, choices) })
		everyList(3, []int{-2, -1, 0, 1, 2, 3, 4, 5}, func(choices []int) { checkChosen(t, g, choices) })
		everyList(5, []int{-1, 0, 1, 2}, func(choices []int) { checkChosen(t, g, choices) })
	}
}

// randomChoices returns up to most choices: small ones, large ones and negative ones.
func randomChoices(r *rand.Rand, most int) []int {
	choices := make([]int, r.IntN(most+1))
	for i := range choices {
		switch r.IntN(5) {
		case 0:
			choices[i] = int(r.Uint64())
		case 1:
			choices[i] = extremeInts[r.IntN(len(extremeInts))]
		default:
			choices[i] = r.IntN(30) - 3
		}
	}
	return choices
}

// TestManyChoices has many lists for each grid, from fewer choices than are taken to many more.
func TestManyChoices(t *testing.T) {
	r := rand.New(rand.NewPCG(17, 1))
	for _, g := range allGrids() {
		for range 400 {
			checkChosen(t, g, randomChoices(r, 20))
		}
		for range 4 {
			checkChosen(t, g, randomChoices(r, 2000))
		}
	}
}

// smallChoices returns choices that are smaller than the numbers that they are taken modulo, and these numbers.
func smallChoices(r *rand.Rand, moduli func(choices []int) []int) (choices, numbers []int) {
	for numbers = moduli(nil); len(choices) < len(numbers); numbers = moduli(choices) {
		choices = append(choices, r.IntN(numbers[len(choices)]))
	}
	return choices, numbers
}

// checkModulo puts numbers for the choice at a place, and expects of each what the small one that it means makes, or 0 if it is negative.
func checkModulo(t *testing.T, name string, n int, with func(choice int) impl.Maze) {
	t.Helper()
	check := func(choice, small int) {
		t.Helper()
		if got, want := with(choice), with(small); got != want {
			t.Errorf("%s makes %v from the choice %d modulo %d, want %v as from %d", name, got, choice, n, want, small)
		}
	}
	for small := range n {
		for _, times := range []int{1, 2, 3, 1000, 1 << 32, math.MaxInt/n - 1} {
			check(small+times*n, small)
		}
	}
	check(math.MaxInt, math.MaxInt%n)
	for _, negative := range []int{-1, -2, -n - 1, -n, -n + 1, -2*n + 1, math.MinInt, math.MinInt + 1} {
		if negative < 0 {
			check(negative, 0)
		}
	}
}

// TestChoiceModuloItsNumber puts other numbers for each choice of a list, while the others stay.
func TestChoiceModuloItsNumber(t *testing.T) {
	r := rand.New(rand.NewPCG(17, 2))
	for _, g := range allGrids() {
		for _, way := range waysOfMaking {
			for range 6 {
				choices, moduli := smallChoices(r, func(choices []int) []int { return way.moduli(g, choices) })
				for place, n := range moduli {
					checkModulo(t, way.name, n, func(choice int) impl.Maze {
						list := slices.Clone(choices)
						list[place] = choice
						return way.mazeOf(g, list)
					})
				}
			}
		}
	}
}

// TestNumberOfChoices: missing choices are 0, and further ones change nothing.
func TestNumberOfChoices(t *testing.T) {
	r := rand.New(rand.NewPCG(17, 3))
	for _, g := range allGrids() {
		for _, way := range waysOfMaking {
			for range 20 {
				choices, _ := smallChoices(r, func(choices []int) []int { return way.moduli(g, choices) })
				for taken := range len(choices) + 1 {
					want := way.mazeOf(g, append(slices.Clone(choices[:taken]), alike(len(choices)-taken, 0)...))
					if got := way.mazeOf(g, choices[:taken]); got != want {
						t.Errorf("%s(%v, %v) = %v, want %v as with zeros behind", way.name, g, choices[:taken], got, want)
					}
					if got := way.mazeOf(g, append(slices.Clone(choices[:taken]), alike(100, -1)...)); got != want {
						t.Errorf("%s(%v, %v) with negative choices behind = %v, want %v", way.name, g, choices[:taken], got, want)
					}
				}
				for _, further := range [][]int{{0}, {1}, {1, 2, 3}, {-1, 1}, {math.MinInt}, {math.MaxInt}, alike(1000, 1)} {
					if got, want := way.mazeOf(g, slices.Concat(choices, further)), way.mazeOf(g, choices); got != want {
						t.Errorf("%s(%v, %v) and then %v = %v, want %v", way.name, g, choices, further, got, want)
					}
				}
			}
		}
	}
}

// orderOfGrowing opens the passages of a perfect maze in some order from cell 0 on, and returns the choices that do so.
func orderOfGrowing(r *rand.Rand, m impl.Maze) []int {
	gaps := gapsInOrder(m.Grid)
	grown := map[int]bool{0: true}
	var choices []int
	for len(grown) < m.Grid.Wide*m.Grid.High {
		around, possible := 0, []int{}
		var opened []neighborPair
		for gap, ends := range gaps {
			if grown[ends.first] == grown[ends.second] {
				continue
			}
			if isDrawnOpen(m, gap) {
				possible = append(possible, around)
				opened = append(opened, ends)
			}
			around++
		}
		i := r.IntN(len(possible))
		choices = append(choices, possible[i])
		grown[opened[i].first], grown[opened[i].second] = true, true
	}
	return choices
}

// TestGrowAnyMaze grows perfect mazes of all sizes, each one in several orders.
func TestGrowAnyMaze(t *testing.T) {
	r := rand.New(rand.NewPCG(17, 4))
	for _, g := range allGrids() {
		others := 0
		for _, m := range perfectMazes(g) {
			first := orderOfGrowing(r, m)
			for range 4 {
				choices := orderOfGrowing(r, m)
				checkGrown(t, g, choices)
				if got := impl.GrowMaze(g, choices); got != m {
					t.Errorf("GrowMaze(%v, %v) = %v, want %v", g, choices, got, m)
				}
				if !slices.Equal(choices, first) {
					others++
				}
			}
		}
		// In a row or a column, there is one order alone.
		if isDivided(wholeTable(g)) != (others > 0) {
			t.Errorf("%v: %d times, the same maze was grown in another order", g, others)
		}
	}
}

// TestGrowOneByOne: as long as the choices are the same, so are the gaps that they open, whatever comes behind.
func TestGrowOneByOne(t *testing.T) {
	r := rand.New(rand.NewPCG(17, 5))
	for _, g := range allGrids() {
		for range 50 {
			choices, _ := smallChoices(r, func(choices []int) []int { return growModuli(g, choices) })
			for taken := range choices {
				common := impl.GrowMaze(g, choices).Open
				for _, further := range [][]int{nil, alike(16, 1), randomChoices(r, 20), randomChoices(r, 20)} {
					common &= impl.GrowMaze(g, append(slices.Clone(choices[:taken]), further...)).Open
				}
				if got := passagesIn(impl.Maze{Grid: g, Open: common}); got < taken {
					t.Errorf("%v: mazes that are grown with the choices %v first have %d passages in common", g, choices[:taken], got)
				}
			}
		}
	}
}

// partOf returns the maze in a table of cells of a larger one.
func partOf(m impl.Maze, table [][]int) impl.Maze {
	part := impl.Maze{Grid: impl.Grid{Wide: len(table[0]), High: len(table)}}
	cells := slices.Concat(table...)
	for gap, ends := range gapsInOrder(part.Grid) {
		part = withGap(part, gap, isDrawnOpen(m, gapsBetween(m.Grid)[neighborPair{cells[ends.first], cells[ends.second]}]))
	}
	return part
}

// TestPartsOfDividedMaze divides each grid at each row or column with each passage: the choices behind those two divide the first part, and then the other one, as they divide a grid of its size.
func TestPartsOfDividedMaze(t *testing.T) {
	r := rand.New(rand.NewPCG(17, 6))
	for _, g := range allGrids() {
		table := wholeTable(g)
		if !isDivided(table) {
			continue
		}
		for line := range max(g.Wide, g.High) - 1 {
			wall, first, other := cutTable(g, table, line)
			firstGrid, otherGrid := partOf(fullMaze(g), first).Grid, partOf(fullMaze(g), other).Grid
			for passage, open := range wall {
				for range 30 {
					forFirst, _ := smallChoices(r, func(choices []int) []int { return divideModuli(firstGrid, choices) })
					forOther, _ := smallChoices(r, func(choices []int) []int { return divideModuli(otherGrid, choices) })
					choices := slices.Concat([]int{line, passage}, forFirst, forOther)
					m := impl.DivideMaze(g, choices)
					for _, gap := range wall {
						if isDrawnOpen(m, gap) != (gap == open) {
							t.Errorf("DivideMaze(%v, %v) = %v, want the gap %d to be the only passage among %v", g, choices, m, open, wall)
						}
					}
					if got, want := partOf(m, first), impl.DivideMaze(firstGrid, forFirst); got != want {
						t.Errorf("DivideMaze(%v, %v) = %v, with %v as its first part, want %v", g, choices, m, got, want)
					}
					if got, want := partOf(m, other), impl.DivideMaze(otherGrid, forOther); got != want {
						t.Errorf("DivideMaze(%v, %v) = %v, with %v as its other part, want %v", g, choices, m, got, want)
					}
				}
			}
		}
	}
}

// TestSameMazeByOtherChoices: the same gaps can be opened, and the same walls set, in another order, and a choice can be one of many numbers.
func TestSameMazeByOtherChoices(t *testing.T) {
	for _, c := range []struct {
		name   string
		mazeOf func(impl.Grid, []int) impl.Maze
		g      impl.Grid
		lists  [][]int
	}{
		{"two gaps in another order", impl.GrowMaze, impl.Grid{Wide: 2, High: 2}, [][]int{{0, 0, 0}, {1, 0, 0}, nil, {2, -1, 4}, {3}}},
		{"along a row", impl.GrowMaze, impl.Grid{Wide: 4, High: 1}, [][]int{nil, {1}, {5, 6, 7}, {-1, math.MaxInt, 3}}},
		{"all of a column", impl.DivideMaze, impl.Grid{Wide: 1, High: 4}, [][]int{nil, {1}, {2, 2, 2}, {-1, math.MaxInt, 3}}},
		{"one row to choose from", impl.DivideMaze, impl.Grid{Wide: 3, High: 2}, [][]int{{1, 0, 0, 1}, {3, 2, 5, 3}, {1, -1, 9, 1}, {1, -7, -9, math.MaxInt}}},
		{"the southern wall of two columns first", impl.DivideMaze, impl.Grid{Wide: 2, High: 3}, [][]int{{0, 1, 0, 0}, {1, 0, 0, 1}}},
		{"the southern wall of three columns first", impl.DivideMaze, impl.Grid{Wide: 3, High: 4}, [][]int{{0, 1, 1, 2, 0, 1, 0, 0}, {2, 2, 0, 1, 0, 1, 0, 0}}},
		{"the eastern wall first", impl.DivideMaze, impl.Grid{Wide: 4, High: 2}, [][]int{{0, 1, 1, 0, 0, 1}, {2, 0, 0, 1, 0, 1}}},
	} {
		t.Run(c.name, func(t *testing.T) {
			want := c.mazeOf(c.g, c.lists[0])
			for _, choices := range c.lists {
				checkChosen(t, c.g, choices)
				if got := c.mazeOf(c.g, choices); got != want {
					t.Errorf("the choices %v make %v, and the choices %v make %v", c.lists[0], want, choices, got)
				}
			}
		})
	}
}

// roomCounts has the number of walls of each grid, laid out like gapCounts.
var roomCounts = [4][4]int{{0, 0, 0, 0}, {0, 1, 2, 3}, {0, 2, 3, 4}, {0, 3, 4, 5}}

// TestCountRooms: CountRooms is the number of walls that DivideMaze sets with all choices 0.
func TestCountRooms(t *testing.T) {
	for _, g := range allGrids() {
		want := roomCounts[g.High-1][g.Wide-1]
		if got := impl.CountRooms(g); got != want {
			t.Errorf("CountRooms(%v) = %d, want %d", g, got, want)
		}
		for _, zeros := range []int{0, 1, 2 * want, 100} {
			choices := alike(zeros, 0)
			drawn, walls, _ := drawnDivide(g, choices)
			if m := impl.DivideMaze(g, choices); m != drawn || len(walls) != want {
				t.Errorf("DivideMaze(%v, %v) = %v, with the walls %v, but CountRooms is %d", g, choices, m, walls, want)
			}
		}
	}
	for _, g := range badGrids() {
		if got := impl.CountRooms(g); got != 0 {
			t.Errorf("CountRooms(%v) = %d, want 0", g, got)
		}
	}
}

func TestChoicesForBadGrids(t *testing.T) {
	for _, g := range badGrids() {
		for _, way := range waysOfMaking {
			for _, choices := range [][]int{nil, {0}, {1}, {-1}, {1, 2, 3}, {math.MinInt}, {math.MaxInt, math.MaxInt}, alike(50, 1)} {
				if got := way.mazeOf(g, choices); got != (impl.Maze{}) {
					t.Errorf("%s(%v, %v) = %v, want the zero Maze", way.name, g, choices, got)
				}
			}
		}
	}
}

// TestChoicesAreLeftAlone: neither way changes choices or the memory behind them, takes any of that memory for choices, or remembers an earlier call.
func TestChoicesAreLeftAlone(t *testing.T) {
	r := rand.New(rand.NewPCG(17, 7))
	for _, g := range append(allGrids(), badGrids()[:20]...) {
		for _, way := range waysOfMaking {
			for range 40 {
				original := randomChoices(r, 16)
				choices, whole := withSpare(original)
				before := slices.Clone(whole)
				want := way.mazeOf(g, slices.Clip(slices.Clone(original)))
				rooms := impl.CountRooms(g)
				impl.GrowMaze(impl.Grid{Wide: 2, High: 2}, []int{1, 1, 1})
				impl.DivideMaze(impl.Grid{Wide: 3, High: 3}, []int{1, 1, 1})
				if got := way.mazeOf(g, choices); got != want {
					t.Errorf("%s(%v, %v) = %v with memory to spare, want %v", way.name, g, choices, got, want)
				}
				if !slices.Equal(whole, before) {
					t.Errorf("%s: the choices %v became %v", way.name, before, whole)
				}
				overwrite(choices)
				if got := way.mazeOf(g, original); got != want || impl.CountRooms(g) != rooms {
					t.Errorf("%s(%v, %v) = %v and then %v", way.name, g, original, want, got)
				}
			}
		}
	}
}
