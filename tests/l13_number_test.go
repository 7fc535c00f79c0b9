package tests

import (
	"math/rand/v2"
	"slices"
	"sync"
	"testing"

	"loop.example/g00990/impl"
)

// numberedCases has, for some grids, Open of each perfect maze in the order of their numbers.
var numberedCases = []struct {
	name string
	g    impl.Grid
	open []int
}{
	{"one cell", impl.Grid{Wide: 1, High: 1}, []int{0}},
	{"two cells side by side", impl.Grid{Wide: 2, High: 1}, []int{1}},
	{"two cells one below the other", impl.Grid{Wide: 1, High: 2}, []int{1}},
	{"a row", impl.Grid{Wide: 4, High: 1}, []int{7}},
	{"a column", impl.Grid{Wide: 1, High: 4}, []int{7}},
	{"four cells", impl.Grid{Wide: 2, High: 2}, []int{14, 13, 11, 7}},
	{"three columns", impl.Grid{Wide: 3, High: 2}, []int{124, 118, 94, 62, 121, 109, 93, 115, 91, 59, 103, 87, 79, 47, 31}},
	{"two columns", impl.Grid{Wide: 2, High: 3}, []int{124, 122, 94, 62, 121, 117, 109, 93, 61, 115, 107, 87, 55, 79, 47}},
}

func TestNumberedCases(t *testing.T) {
	for _, c := range numberedCases {
		t.Run(c.name, func(t *testing.T) {
			var list []impl.Maze
			for _, open := range c.open {
				list = append(list, impl.Maze{Grid: c.g, Open: open})
			}
			for n := range list {
				checkNumbered(t, list, n)
			}
			if got := numberedMazes(c.g); !slices.Equal(got, list) {
				t.Errorf("painted, the perfect mazes of %v are %v, want %v", c.g, got, list)
			}
		})
	}
}

// TestNumbersInLargeGrids has numbers that were found by going through all choices of gaps; the last ones with a wall at gap 0 are 55 and 30015.
func TestNumbersInLargeGrids(t *testing.T) {
	square, large := impl.Grid{Wide: 3, High: 3}, impl.Grid{Wide: 4, High: 4}
	cases := []struct {
		g       impl.Grid
		n, open int
	}{
		{square, 0, 4080}, {square, 1, 4056}, {square, 55, 766}, {square, 56, 4065}, {square, 95, 1405}, {square, 96, 893}, {square, 190, 1151}, {square, 191, 639},
		{large, 0, 16776704}, {large, 1, 16774912}, {large, 2, 12582656}, {large, 30015, 1130494}, {large, 30016, 16776193},
		{large, 50000, 11857245}, {large, 54321, 14415619}, {large, 100350, 2170879}, {large, 100351, combMaze().Open},
	}
	for _, c := range cases {
		list := numberedMazes(c.g)
		checkNumbered(t, list, c.n)
		if want := (impl.Maze{Grid: c.g, Open: c.open}); list[c.n] != want {
			t.Errorf("painted, %v has the number %d, want %v", list[c.n], c.n, want)
		}
	}
}

// checkNumbered expects of the functions that the maze with the number n is the one that a list of all perfect mazes of a grid has there.
func checkNumbered(t *testing.T, list []impl.Maze, n int) {
	t.Helper()
	m := list[n]
	if got := impl.CountAll(m.Grid); got != len(list) {
		t.Errorf("CountAll(%v) = %d, want %d", m.Grid, got, len(list))
	}
	if got := impl.NumberOf(m); got != n {
		t.Errorf("NumberOf(%v) = %d, want %d", m, got, n)
	}
	if got, ok := impl.MazeAt(m.Grid, n); got != m || !ok {
		t.Errorf("MazeAt(%v, %d) = %v, %v, want %v, true", m.Grid, n, got, ok, m)
	}
	want, isThere := m, n+1 < len(list)
	if isThere {
		want = list[n+1]
	}
	if got, ok := impl.NextMaze(m); got != want || ok != isThere {
		t.Errorf("NextMaze(%v) = %v, %v, want %v, %v", m, got, ok, want, isThere)
	}
}

// firstDifference returns the first gap in which two mazes of a grid differ, or -1 if they do not.
func firstDifference(a, b impl.Maze) int {
	x, y := a.Open, b.Open
	for gap := 0; x != y; gap++ {
		if x%2 != y%2 {
			return gap
		}
		x, y = x/2, y/2
	}
	return -1
}

// compareMazes is the order of the numbers: at the first gap that differs, the wall comes before the passage.
func compareMazes(a, b impl.Maze) int {
	gap := firstDifference(a, b)
	switch {
	case gap < 0:
		return 0
	case isDrawnOpen(b, gap):
		return -1
	default:
		return 1
	}
}

// paintedTrees lists the perfect mazes of a grid: it opens gaps whose ends have different colors, until one passage less than cells is there.
func paintedTrees(g impl.Grid) []impl.Maze {
	gaps := gapsInOrder(g)
	var list []impl.Maze
	var choose func(forest painted, gap, missing int)
	choose = func(forest painted, gap, missing int) {
		if missing == 0 {
			list = append(list, impl.Maze{Grid: g, Open: forest.open})
		}
		if missing == 0 || missing > len(gaps)-gap {
			return
		}
		choose(forest, gap+1, missing)
		from, to := forest.colors[gaps[gap].first], forest.colors[gaps[gap].second]
		if from == to {
			return
		}
		forest.open += bitsOf(gap)
		for cell, color := range forest.colors {
			if color == from {
				forest.colors[cell] = to
			}
		}
		choose(forest, gap+1, missing-1)
	}
	var apart painted
	for cell := range apart.colors {
		apart.colors[cell] = cell
	}
	choose(apart, 0, g.Wide*g.High-1)
	return list
}

// allNumbered sorts the perfect mazes of each grid by the order of their numbers, once for all tests.
var allNumbered = sync.OnceValue(func() map[impl.Grid][]impl.Maze {
	lists := map[impl.Grid][]impl.Maze{}
	for _, g := range allGrids() {
		list := paintedTrees(g)
		slices.SortFunc(list, compareMazes)
		lists[g] = list
	}
	return lists
})

// numberedMazes returns all perfect mazes of a grid, each at the place of its number.
func numberedMazes(g impl.Grid) []impl.Maze {
	return allNumbered()[g]
}

// numbersToCheck holds all numbers of a grid, or of the largest one the first and the last ones, some in between, and some after which the mazes differ first at each gap.
func numbersToCheck(g impl.Grid) []int {
	list := numberedMazes(g)
	var numbers []int
	found := map[int]int{}
	for n := range list {
		gap := -1
		if n+1 < len(list) {
			gap = firstDifference(list[n], list[n+1])
		}
		found[gap]++
		if len(list) < 5000 || n < 20 || n >= len(list)-20 || n%331 == 0 || found[gap] <= 4 {
			numbers = append(numbers, n)
		}
	}
	return numbers
}

func TestNumberedAsPainted(t *testing.T) {
	for _, g := range allGrids() {
		list := numberedMazes(g)
		for _, n := range numbersToCheck(g) {
			checkNumbered(t, list, n)
		}
	}
}

// TestFirstDifferences looks at which gaps a maze and the next one differ first: it is any one but the last, as a maze of which only the last gap is changed is not perfect.
func TestFirstDifferences(t *testing.T) {
	for _, g := range allGrids() {
		seen := map[int]bool{}
		for _, n := range numbersToCheck(g) {
			m, ok := impl.MazeAt(g, n)
			next, more := impl.NextMaze(m)
			if !ok || !more {
				continue
			}
			gap := firstDifference(m, next)
			seen[gap] = true
			if impl.IsPassage(m, gap) || !impl.IsPassage(next, gap) {
				t.Errorf("NextMaze(%v) = %v, but at gap %d, where they differ first, the wall does not come first", m, next, gap)
			}
		}
		want := 0
		if g.Wide > 1 && g.High > 1 {
			want = len(gapsInOrder(g)) - 1
		}
		for gap := range want {
			if !seen[gap] {
				t.Errorf("%v: no maze and its next one differ first at gap %d", g, gap)
			}
		}
		if len(seen) != want {
			t.Errorf("%v: mazes and their next ones differ first at the gaps %v, want the first %d", g, seen, want)
		}
	}
}

func TestCountAll(t *testing.T) {
	counts := [4][4]int{{1, 1, 1, 1}, {1, 4, 15, 56}, {1, 15, 192, 2415}, {1, 56, 2415, 100352}}
	for _, g := range allGrids() {
		want := counts[g.High-1][g.Wide-1]
		if got := impl.CountAll(g); got != want {
			t.Errorf("CountAll(%v) = %d, want %d", g, got, want)
		}
		if got := len(numberedMazes(g)); got != want {
			t.Errorf("painted, %v has %d perfect mazes, want %d", g, got, want)
		}
	}
}

// TestMazesAndNumbersBelongTogether is promise 13: each number leads to a perfect maze and back, each perfect maze to a number and back, and no two numbers have the same maze.
func TestMazesAndNumbersBelongTogether(t *testing.T) {
	for _, g := range allGrids() {
		count := impl.CountAll(g)
		numbers := map[impl.Maze]int{}
		for _, n := range numbersToCheck(g) {
			m, ok := impl.MazeAt(g, n)
			if !ok || m.Grid != g || !impl.IsPerfect(m) {
				t.Errorf("MazeAt(%v, %d) = %v, %v, which is no perfect maze", g, n, m, ok)
			}
			if got := impl.NumberOf(m); got != n {
				t.Errorf("MazeAt(%v, %d) = %v, but NumberOf(%v) = %d", g, n, m, m, got)
			}
			if other, ok := numbers[m]; ok {
				t.Errorf("%v has the numbers %d and %d", m, other, n)
			}
			numbers[m] = n
		}
		for _, m := range perfectMazes(g) {
			n := impl.NumberOf(m)
			if n < 0 || n >= count {
				t.Errorf("NumberOf(%v) = %d, want one in the range 0 to %d", m, n, count-1)
			}
			if got, ok := impl.MazeAt(g, n); got != m || !ok {
				t.Errorf("NumberOf(%v) = %d, but MazeAt(%v, %d) = %v, %v", m, n, g, n, got, ok)
			}
		}
	}
}

// followNext expects that NextMaze leads from a maze to a later one in just so many steps, in order.
func followNext(t *testing.T, m, last impl.Maze, steps int) {
	t.Helper()
	for step := range steps {
		next, ok := impl.NextMaze(m)
		if !ok || next.Grid != m.Grid || !impl.IsPerfect(next) || compareMazes(m, next) >= 0 {
			t.Errorf("NextMaze(%v) = %v, %v after %d of %d steps, want a later perfect maze", m, next, ok, step, steps)
			return
		}
		m = next
	}
	if m != last {
		t.Errorf("NextMaze leads to %v in %d steps, want %v", m, steps, last)
	}
}

// TestNextLeadsThroughAll goes from the first maze of a grid to the last one, and in the largest grid through parts of this way.
func TestNextLeadsThroughAll(t *testing.T) {
	for _, g := range allGrids() {
		count := impl.CountAll(g)
		starts, steps := []int{0}, count-1
		if count > 5000 {
			starts, steps = []int{0, 12345, count / 2, count - 301}, 300
		}
		for _, n := range starts {
			from, _ := impl.MazeAt(g, n)
			to, _ := impl.MazeAt(g, n+steps)
			followNext(t, from, to, steps)
		}
	}
}

// TestFirstAndLastMaze: in the first maze all gaps to the south are open and the last row, in the last one all gaps to the east and the first column.
func TestFirstAndLastMaze(t *testing.T) {
	for _, g := range allGrids() {
		east, first, last := (g.Wide-1)*g.High, 0, 0
		for gap := range gapsInOrder(g) {
			if gap >= east || gap/max(g.Wide-1, 1) == g.High-1 {
				first += bitsOf(gap)
			}
			if gap < east || (gap-east)%g.Wide == 0 {
				last += bitsOf(gap)
			}
		}
		count := impl.CountAll(g)
		list := []impl.Maze{{Grid: g, Open: first}, {Grid: g, Open: last}}
		for i, n := range []int{0, count - 1} {
			if got, ok := impl.MazeAt(g, n); got != list[i] || !ok {
				t.Errorf("MazeAt(%v, %d) = %v, %v, want %v, true", g, n, got, ok, list[i])
			}
			if got := impl.NumberOf(list[i]); got != n {
				t.Errorf("NumberOf(%v) = %d, want %d", list[i], got, n)
			}
		}
		if got, ok := impl.NextMaze(list[1]); got != list[1] || ok {
			t.Errorf("NextMaze(%v) = %v, %v, want it unchanged and false", list[1], got, ok)
		}
		before, ok := impl.MazeAt(g, count-2)
		if ok != (count > 1) {
			t.Errorf("MazeAt(%v, %d) = %v, %v", g, count-2, before, ok)
		}
		if got, more := impl.NextMaze(before); ok && (got != list[1] || !more) {
			t.Errorf("NextMaze(%v) = %v, %v, want %v, true", before, got, more, list[1])
		}
	}
}

// TestWallsComeFirst takes two numbers: at the first gap in which their mazes differ, that of the smaller one has the wall.
func TestWallsComeFirst(t *testing.T) {
	for _, g := range allGrids() {
		count := impl.CountAll(g)
		r := rand.New(rand.NewPCG(13, uint64(count)))
		for range 300 {
			x, y := r.IntN(count), r.IntN(count)
			a, _ := impl.MazeAt(g, x)
			b, _ := impl.MazeAt(g, y)
			if gap := firstDifference(a, b); (gap < 0) != (x == y) || gap >= 0 && impl.IsPassage(a, gap) != (x > y) {
				t.Errorf("MazeAt(%v, %d) = %v and MazeAt(%v, %d) = %v differ first at gap %d", g, x, a, g, y, b, gap)
			}
		}
	}
}

// TestDifferenceAtGapZero: the mazes with a wall at gap 0 have the first numbers, and the next number after theirs is that of the first maze with a passage there.
func TestDifferenceAtGapZero(t *testing.T) {
	for _, g := range allGrids() {
		if g.Wide == 1 || g.High == 1 {
			continue
		}
		walls := sweptCount(g, 0, bitsOf(0))
		last, _ := impl.MazeAt(g, walls-1)
		first, _ := impl.MazeAt(g, walls)
		if impl.IsPassage(last, 0) || !impl.IsPassage(first, 0) {
			t.Errorf("MazeAt(%v, %d) = %v and the maze behind it is %v, want the first passage at gap 0", g, walls-1, last, first)
		}
		if got, ok := impl.NextMaze(last); got != first || !ok {
			t.Errorf("NextMaze(%v) = %v, %v, want %v, true", last, got, ok, first)
		}
	}
}

// checkNoNumber expects of a maze that it has no number and that no maze follows it.
func checkNoNumber(t *testing.T, m impl.Maze) {
	t.Helper()
	if got := impl.NumberOf(m); got != -1 {
		t.Errorf("NumberOf(%v) = %d, want -1", m, got)
	}
	if got, ok := impl.NextMaze(m); got != m || ok {
		t.Errorf("NextMaze(%v) = %v, %v, want it unchanged and false", m, got, ok)
	}
}

func TestNoNumber(t *testing.T) {
	small, wide, large := impl.Grid{Wide: 2, High: 2}, impl.Grid{Wide: 3, High: 2}, impl.Grid{Wide: 4, High: 4}
	cases := []struct {
		name string
		m    impl.Maze
	}{
		{"no passages", impl.Maze{Grid: small}},
		{"no passages in the largest grid", impl.Maze{Grid: large}},
		{"two cells and a wall", impl.Maze{Grid: impl.Grid{Wide: 2, High: 1}}},
		{"a row in two halves", impl.Maze{Grid: impl.Grid{Wide: 4, High: 1}, Open: 5}},
		{"one passage", impl.Maze{Grid: small, Open: 1}},
		{"two parts", impl.Maze{Grid: small, Open: 3}},
		{"a loop", impl.FullMaze(small)},
		{"a loop with a tail", tailMaze()},
		{"two bends", bentMaze()},
		{"a loop and two cells apart", impl.Maze{Grid: wide, Open: 53}},
		{"as many passages as a perfect maze, but a loop", impl.Maze{Grid: wide, Open: 55}},
		{"two loops", twoLoops()},
		{"a ring around one cell", ringMaze()},
		{"a perfect maze and one passage more", impl.Maze{Grid: large, Open: rowByRow().Open + bitsOf(12)}},
		{"a perfect maze and one passage less", impl.Maze{Grid: large, Open: rowByRow().Open - bitsOf(15)}},
		{"all gaps of the largest grid open", impl.FullMaze(large)},
	}
	for _, c := range cases {
		t.Run(c.name, func(t *testing.T) { checkNoNumber(t, c.m) })
	}
}

// TestOnlyPerfectMazesHaveNumbers has all mazes of the small grids, and of the large ones perfect mazes with one gap changed, among others.
func TestOnlyPerfectMazesHaveNumbers(t *testing.T) {
	for _, g := range allGrids() {
		for _, m := range append(someMazes(g), almostPerfectMazes(g)...) {
			if !hasOneWay(m) {
				checkNoNumber(t, m)
			} else if got := impl.NumberOf(m); got < 0 {
				t.Errorf("NumberOf(%v) = %d, but it is perfect", m, got)
			}
		}
	}
}

// checkNoMaze expects that no maze of a grid has a number.
func checkNoMaze(t *testing.T, g impl.Grid, n int) {
	t.Helper()
	if got, ok := impl.MazeAt(g, n); got != (impl.Maze{}) || ok {
		t.Errorf("MazeAt(%v, %d) = %v, %v, want the zero Maze and false", g, n, got, ok)
	}
}

func TestNoMazeAt(t *testing.T) {
	for _, g := range allGrids() {
		count := len(numberedMazes(g))
		for _, n := range append([]int{-count - 1, -count, -2, -1, count, count + 1, 2 * count, 100352, 1 << 24}, extremeInts...) {
			checkNoMaze(t, g, n)
		}
	}
}

func TestNumbersInBadGrids(t *testing.T) {
	for _, g := range badGrids() {
		if got := impl.CountAll(g); got != 0 {
			t.Errorf("CountAll(%v) = %d, want 0", g, got)
		}
		for _, n := range append([]int{-1, 0, 1, 3, 100351, 100352}, extremeInts...) {
			checkNoMaze(t, g, n)
		}
	}
}

func TestNumbersInBadMazes(t *testing.T) {
	for _, m := range badMazes() {
		checkNoNumber(t, m)
	}
}

// TestNumbersLeaveArgumentsAlone: no function changes its arguments, and none remembers an earlier call.
func TestNumbersLeaveArgumentsAlone(t *testing.T) {
	for _, original := range allGrids() {
		for _, maze := range perfectMazes(original)[:min(10, impl.CountAll(original))] {
			g, m := original, maze
			number := impl.NumberOf(m)
			n := number
			at, _ := impl.MazeAt(g, n)
			next, ok := impl.NextMaze(m)
			impl.CountAll(g)
			if g != original || m != maze || n != number {
				t.Errorf("%v, %v and %d became %v, %v and %d", original, maze, number, g, m, n)
			}
			impl.NextMaze(impl.FullMaze(g))
			impl.MazeAt(g, 0)
			impl.NumberOf(rowByRow())
			if again, more := impl.NextMaze(m); again != next || more != ok || impl.NumberOf(at) != number {
				t.Errorf("after other calls, NextMaze(%v) = %v, %v and NumberOf(%v) = %d, want %v, %v and %d", m, again, more, at, impl.NumberOf(at), next, ok, number)
			}
		}
	}
}
