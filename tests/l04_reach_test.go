package tests

import (
	"slices"
	"testing"

	"loop.example/g00990/impl"
)

// reachCase is a maze, the number of its parts, the distances between its cells, and the farthest cell from each one.
type reachCase struct {
	name      string
	m         impl.Maze
	parts     int
	distances [][]int
	farthest  []int
}

func reachCases() []reachCase {
	small := impl.Grid{Wide: 2, High: 2}
	return []reachCase{
		{"one cell", impl.Maze{Grid: impl.Grid{Wide: 1, High: 1}}, 1, [][]int{{0}}, []int{0}},
		{"two cells and a wall", impl.Maze{Grid: impl.Grid{Wide: 2, High: 1}}, 2, [][]int{{0, -1}, {-1, 0}}, []int{0, 1}},
		{"two cells and a passage", impl.Maze{Grid: impl.Grid{Wide: 1, High: 2}, Open: 1}, 1, [][]int{{0, 1}, {1, 0}}, []int{1, 0}},
		{"a row in two halves", impl.Maze{Grid: impl.Grid{Wide: 4, High: 1}, Open: 5}, 2, [][]int{{0, 1, -1, -1}, {1, 0, -1, -1}, {-1, -1, 0, 1}, {-1, -1, 1, 0}}, []int{1, 0, 3, 2}},
		{"a column", impl.Maze{Grid: impl.Grid{Wide: 1, High: 3}, Open: 3}, 1, [][]int{{0, 1, 2}, {1, 0, 1}, {2, 1, 0}}, []int{2, 0, 0}},
		{"no passage", impl.Maze{Grid: small}, 4, [][]int{{0, -1, -1, -1}, {-1, 0, -1, -1}, {-1, -1, 0, -1}, {-1, -1, -1, 0}}, []int{0, 1, 2, 3}},
		{"one passage", impl.Maze{Grid: small, Open: 1}, 3, [][]int{{0, 1, -1, -1}, {1, 0, -1, -1}, {-1, -1, 0, -1}, {-1, -1, -1, 0}}, []int{1, 0, 2, 3}},
		{"a bend", impl.Maze{Grid: small, Open: 13}, 1, [][]int{{0, 1, 1, 2}, {1, 0, 2, 1}, {1, 2, 0, 3}, {2, 1, 3, 0}}, []int{3, 2, 3, 2}},
		{"all gaps open", impl.Maze{Grid: small, Open: 15}, 1, [][]int{{0, 1, 1, 2}, {1, 0, 2, 1}, {1, 2, 0, 1}, {2, 1, 1, 0}}, []int{3, 2, 1, 0}},
		{"two bends", bentMaze(), 2, [][]int{
			{0, 1, -1, 1, -1, -1},
			{1, 0, -1, 2, -1, -1},
			{-1, -1, 0, -1, 2, 1},
			{1, 2, -1, 0, -1, -1},
			{-1, -1, 2, -1, 0, 1},
			{-1, -1, 1, -1, 1, 0},
		}, []int{1, 3, 4, 1, 2, 2}},
		{"a cross and four corners", crossMaze(), 5, [][]int{
			{0, -1, -1, -1, -1, -1, -1, -1, -1},
			{-1, 0, -1, 2, 1, 2, -1, 2, -1},
			{-1, -1, 0, -1, -1, -1, -1, -1, -1},
			{-1, 2, -1, 0, 1, 2, -1, 2, -1},
			{-1, 1, -1, 1, 0, 1, -1, 1, -1},
			{-1, 2, -1, 2, 1, 0, -1, 2, -1},
			{-1, -1, -1, -1, -1, -1, 0, -1, -1},
			{-1, 2, -1, 2, 1, 2, -1, 0, -1},
			{-1, -1, -1, -1, -1, -1, -1, -1, 0},
		}, []int{0, 3, 2, 1, 1, 1, 6, 1, 8}},
		{"a ring around one cell", impl.Maze{Grid: impl.Grid{Wide: 3, High: 3}, Open: 1 + 2 + 16 + 32 + 64 + 256 + 512 + 2048}, 2, [][]int{
			{0, 1, 2, 1, -1, 3, 2, 3, 4},
			{1, 0, 1, 2, -1, 2, 3, 4, 3},
			{2, 1, 0, 3, -1, 1, 4, 3, 2},
			{1, 2, 3, 0, -1, 4, 1, 2, 3},
			{-1, -1, -1, -1, 0, -1, -1, -1, -1},
			{3, 2, 1, 4, -1, 0, 3, 2, 1},
			{2, 3, 4, 1, -1, 3, 0, 1, 2},
			{3, 4, 3, 2, -1, 2, 1, 0, 1},
			{4, 3, 2, 3, -1, 1, 2, 1, 0},
		}, []int{8, 7, 6, 5, 4, 3, 2, 1, 0}},
	}
}

// reachedIn lists the cells to which there is a distance.
func reachedIn(distances []int) []int {
	var cells []int
	for cell, distance := range distances {
		if distance >= 0 {
			cells = append(cells, cell)
		}
	}
	return cells
}

// checkReach holds each function of the chapter against the distances in a maze, in which there are so many parts.
func checkReach(t *testing.T, m impl.Maze, parts int, distances [][]int) {
	t.Helper()
	if got := impl.CountParts(m); got != parts {
		t.Errorf("CountParts(%v) = %d, want %d", m, got, parts)
	}
	if got, want := impl.IsConnected(m), parts == 1; got != want {
		t.Errorf("IsConnected(%v) = %v, want %v", m, got, want)
	}
	for a, row := range distances {
		if got, want := impl.Reached(m, a), reachedIn(row); !slices.Equal(got, want) {
			t.Errorf("Reached(%v, %d) = %v, want %v", m, a, got, want)
		}
		if got, want := impl.FarthestFrom(m, a), slices.Index(row, slices.Max(row)); got != want {
			t.Errorf("FarthestFrom(%v, %d) = %d, want %d", m, a, got, want)
		}
		for b, want := range row {
			if got := impl.DistanceOf(m, a, b); got != want {
				t.Errorf("DistanceOf(%v, %d, %d) = %d, want %d", m, a, b, got, want)
			}
		}
	}
}

func TestReachCases(t *testing.T) {
	for _, c := range reachCases() {
		t.Run(c.name, func(t *testing.T) {
			checkReach(t, c.m, c.parts, c.distances)
			for cell, want := range c.farthest {
				if got := impl.FarthestFrom(c.m, cell); got != want {
					t.Errorf("FarthestFrom(%v, %d) = %d, want %d", c.m, cell, got, want)
				}
			}
		})
	}
}

// TestReachedInParts names the cells of separate parts one by one.
func TestReachedInParts(t *testing.T) {
	cases := []struct {
		m    impl.Maze
		want [][]int
	}{
		{bentMaze(), [][]int{{0, 1, 3}, {0, 1, 3}, {2, 4, 5}, {0, 1, 3}, {2, 4, 5}, {2, 4, 5}}},
		{crossMaze(), [][]int{{0}, {1, 3, 4, 5, 7}, {2}, {1, 3, 4, 5, 7}, {1, 3, 4, 5, 7}, {1, 3, 4, 5, 7}, {6}, {1, 3, 4, 5, 7}, {8}}},
	}
	for _, c := range cases {
		for cell, want := range c.want {
			if got := impl.Reached(c.m, cell); !slices.Equal(got, want) {
				t.Errorf("Reached(%v, %d) = %v, want %v", c.m, cell, got, want)
			}
		}
	}
}

// drawnDistances finds the distances in a maze as the document draws it, by trying each cell as a stop between any two others; -1 is no way.
func drawnDistances(m impl.Maze) [][]int {
	const far = 1000
	steps := drawnSteps(m)
	d := make([][]int, len(steps))
	for a := range d {
		d[a] = slices.Repeat([]int{far}, len(steps))
		for _, b := range steps[a] {
			if b >= 0 {
				d[a][b] = 1
			}
		}
		d[a][a] = 0
	}
	for stop := range d {
		for a := range d {
			for b := range d {
				d[a][b] = min(d[a][b], d[a][stop]+d[stop][b])
			}
		}
	}
	for _, row := range d {
		for b := range row {
			if row[b] >= far {
				row[b] = -1
			}
		}
	}
	return d
}

// partsIn counts the cells to which there is a distance from no smaller cell: each part has one.
func partsIn(distances [][]int) int {
	parts := 0
	for cell, row := range distances {
		if reachedIn(row)[0] == cell {
			parts++
		}
	}
	return parts
}

func TestReachAsDrawn(t *testing.T) {
	for _, g := range allGrids() {
		for _, m := range someMazes(g) {
			distances := drawnDistances(m)
			checkReach(t, m, partsIn(distances), distances)
		}
	}
}

// TestDistancesBothWays is promise 4: distances are the same both ways, and have the parity of the grid, in which each step changes the column or the row by 1.
func TestDistancesBothWays(t *testing.T) {
	for _, g := range allGrids() {
		for _, m := range someMazes(g) {
			for a := range impl.CountCells(g) {
				for b := range a + 1 {
					there, back := impl.DistanceOf(m, a, b), impl.DistanceOf(m, b, a)
					if there != back {
						t.Errorf("%v: the distance from %d to %d is %d, and back %d", m, a, b, there, back)
					}
					apart := a%g.Wide + b%g.Wide + a/g.Wide + b/g.Wide
					if there >= 0 && there%2 != apart%2 {
						t.Errorf("%v: the distance from %d to %d is %d, which has not the parity of the grid", m, a, b, there)
					}
					if (there == 0) != (a == b) || there < -1 {
						t.Errorf("%v: the distance from %d to %d is %d", m, a, b, there)
					}
				}
			}
		}
	}
}

// TestPartsDivideTheCells puts the functions of the chapter together: the cells of a part all reach the same cells, and only between these there is a distance.
func TestPartsDivideTheCells(t *testing.T) {
	for _, g := range allGrids() {
		for _, m := range someMazes(g) {
			parts := 0
			var lists [][]int
			for cell := range impl.CountCells(g) {
				lists = append(lists, impl.Reached(m, cell))
			}
			for a, reached := range lists {
				if !slices.IsSorted(reached) || !slices.Contains(reached, a) {
					t.Fatalf("Reached(%v, %d) = %v, want ascending cells with %d among them", m, a, reached, a)
				}
				if reached[0] == a {
					parts++
				}
				farthest := impl.FarthestFrom(m, a)
				greatest := impl.DistanceOf(m, a, farthest)
				for b, others := range lists {
					if same := slices.Equal(reached, others); same != slices.Contains(reached, b) {
						t.Errorf("%v: whether %d and %d reach the same cells is %v, but %d reaches %v", m, a, b, same, a, reached)
					}
					distance := impl.DistanceOf(m, a, b)
					if (distance >= 0) != slices.Contains(reached, b) {
						t.Errorf("%v: the distance from %d to %d is %d, but %d reaches %v", m, a, b, distance, a, reached)
					}
					if distance > greatest || distance == greatest && b < farthest {
						t.Errorf("FarthestFrom(%v, %d) = %d, want %d or another one", m, a, farthest, b)
					}
				}
			}
			if got := impl.CountParts(m); got != parts || impl.IsConnected(m) != (parts == 1) {
				t.Errorf("%v: CountParts is %d and IsConnected %v, want %d parts", m, got, impl.IsConnected(m), parts)
			}
		}
	}
}

func TestReachWithoutPassages(t *testing.T) {
	for _, g := range allGrids() {
		m, n := impl.Maze{Grid: g}, g.Wide*g.High
		if got := impl.CountParts(m); got != n || impl.IsConnected(m) != (n == 1) {
			t.Errorf("%v: CountParts is %d and IsConnected %v, want %d parts", m, got, impl.IsConnected(m), n)
		}
		for a := range n {
			if got := impl.Reached(m, a); !slices.Equal(got, []int{a}) {
				t.Errorf("Reached(%v, %d) = %v, want %d alone", m, a, got, a)
			}
			if got := impl.FarthestFrom(m, a); got != a {
				t.Errorf("FarthestFrom(%v, %d) = %d, want %d", m, a, got, a)
			}
			for b := range n {
				want := -1
				if a == b {
					want = 0
				}
				if got := impl.DistanceOf(m, a, b); got != want {
					t.Errorf("DistanceOf(%v, %d, %d) = %d, want %d", m, a, b, got, want)
				}
			}
		}
	}
}

// TestReachInFullMaze: where all gaps are open, the distance is the columns and the rows between two cells.
func TestReachInFullMaze(t *testing.T) {
	between := func(a, b int) int { return max(a-b, b-a) }
	for _, g := range allGrids() {
		distances := make([][]int, g.Wide*g.High)
		for a := range distances {
			for b := range distances {
				distances[a] = append(distances[a], between(a%g.Wide, b%g.Wide)+between(a/g.Wide, b/g.Wide))
			}
		}
		checkReach(t, impl.FullMaze(g), 1, distances)
	}
}

// TestFarthestOfSeveral looks at cells from which several ones are at the greatest distance: the one with the least number is asked.
func TestFarthestOfSeveral(t *testing.T) {
	cases := []struct{ wide, high, cell, want int }{
		{3, 1, 1, 0}, {1, 3, 1, 0}, {3, 3, 4, 0}, {3, 3, 1, 6}, {3, 3, 3, 2}, {3, 3, 5, 0}, {3, 3, 7, 0}, {3, 4, 1, 9}, {4, 3, 4, 3}, {4, 3, 7, 0}, {3, 2, 1, 3}, {2, 3, 2, 1},
	}
	for _, c := range cases {
		m := impl.FullMaze(impl.Grid{Wide: c.wide, High: c.high})
		if got := impl.FarthestFrom(m, c.cell); got != c.want {
			t.Errorf("FarthestFrom(%v, %d) = %d, want %d", m, c.cell, got, c.want)
		}
	}
}

// TestLongestWay goes through the largest grid row by row, so that the farthest cells are 15 steps apart, though they are at the same side.
func TestLongestWay(t *testing.T) {
	m := impl.Maze{Grid: impl.Grid{Wide: 4, High: 4}, Open: 4095 + 1<<15 + 1<<16 + 1<<23}
	order := []int{0, 1, 2, 3, 7, 6, 5, 4, 8, 9, 10, 11, 15, 14, 13, 12}
	for i, a := range order {
		for k, b := range order {
			if got, want := impl.DistanceOf(m, a, b), max(i-k, k-i); got != want {
				t.Errorf("DistanceOf(%v, %d, %d) = %d, want %d", m, a, b, got, want)
			}
		}
		want := 12
		if i > 7 {
			want = 0
		}
		if got := impl.FarthestFrom(m, a); got != want {
			t.Errorf("FarthestFrom(%v, %d) = %d, want %d", m, a, got, want)
		}
		if got := impl.Reached(m, a); len(got) != 16 {
			t.Errorf("Reached(%v, %d) = %v, want 16 cells", m, a, got)
		}
	}
	if !impl.IsConnected(m) {
		t.Errorf("IsConnected(%v) = false, want true", m)
	}
}

// TestReachOfNoCell asks for cells before the first and after the last one, also together with a cell of the maze.
func TestReachOfNoCell(t *testing.T) {
	for _, g := range allGrids() {
		n := g.Wide * g.High
		for _, m := range []impl.Maze{{Grid: g}, impl.FullMaze(g)} {
			for _, cell := range append([]int{-n, -g.Wide, -2, -1, n, n + 1, n + g.Wide, 100}, extremeInts...) {
				if got := impl.Reached(m, cell); len(got) != 0 {
					t.Errorf("Reached(%v, %d) = %v, want none", m, cell, got)
				}
				if got := impl.FarthestFrom(m, cell); got != -1 {
					t.Errorf("FarthestFrom(%v, %d) = %d, want -1", m, cell, got)
				}
				if got := impl.DistanceOf(m, cell, cell); got != -1 {
					t.Errorf("DistanceOf(%v, %d, %d) = %d, want -1", m, cell, cell, got)
				}
				for other := range n {
					if there, back := impl.DistanceOf(m, other, cell), impl.DistanceOf(m, cell, other); there != -1 || back != -1 {
						t.Errorf("%v: the distance from %d to %d is %d, and back %d, want -1 and -1", m, other, cell, there, back)
					}
				}
			}
		}
	}
}

func TestReachInBadMazes(t *testing.T) {
	for _, m := range badMazes() {
		if got := impl.CountParts(m); got != 0 || impl.IsConnected(m) {
			t.Errorf("%v: CountParts is %d and IsConnected %v, want 0 and false", m, got, impl.IsConnected(m))
		}
		for a := -1; a <= 16; a++ {
			if got := impl.Reached(m, a); len(got) != 0 {
				t.Errorf("Reached(%v, %d) = %v, want none", m, a, got)
			}
			if got := impl.FarthestFrom(m, a); got != -1 {
				t.Errorf("FarthestFrom(%v, %d) = %d, want -1", m, a, got)
			}
			for b := -1; b <= 16; b++ {
				if got := impl.DistanceOf(m, a, b); got != -1 {
					t.Errorf("DistanceOf(%v, %d, %d) = %d, want -1", m, a, b, got)
				}
			}
		}
	}
}

func TestReachedIsNewMemory(t *testing.T) {
	m := crossMaze()
	first := impl.Reached(m, 4)
	second := impl.Reached(m, 4)
	for i := range first {
		first[i] = 9
	}
	want := []int{1, 3, 4, 5, 7}
	if third := impl.Reached(m, 4); !slices.Equal(second, want) || !slices.Equal(third, want) {
		t.Errorf("Reached = %v and %v after a result was changed, want %v", second, third, want)
	}
}
