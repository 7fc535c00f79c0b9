package tests

import (
	"slices"
	"testing"

	"loop.example/g00990/impl"
)

// perfectCase is a maze, whether it is perfect, the number of its loops, the gaps that would join parts, and the bridges.
type perfectCase struct {
	name    string
	m       impl.Maze
	perfect bool
	loops   int
	joining []int
	bridges []int
}

func perfectCases() []perfectCase {
	small, large := impl.Grid{Wide: 2, High: 2}, impl.Grid{Wide: 4, High: 4}
	rows := []int{0, 1, 2, 3, 4, 5, 6, 7, 8, 9, 10, 11}
	return []perfectCase{
		{"one cell", impl.Maze{Grid: impl.Grid{Wide: 1, High: 1}}, true, 0, nil, nil},
		{"two cells and a wall", impl.Maze{Grid: impl.Grid{Wide: 2, High: 1}}, false, 0, []int{0}, nil},
		{"two cells and a passage", impl.Maze{Grid: impl.Grid{Wide: 1, High: 2}, Open: 1}, true, 0, nil, []int{0}},
		{"a row in two halves", impl.Maze{Grid: impl.Grid{Wide: 4, High: 1}, Open: 5}, false, 0, []int{1}, []int{0, 2}},
		{"a column", impl.Maze{Grid: impl.Grid{Wide: 1, High: 4}, Open: 7}, true, 0, nil, []int{0, 1, 2}},
		{"no passage", impl.Maze{Grid: small}, false, 0, []int{0, 1, 2, 3}, nil},
		{"one passage", impl.Maze{Grid: small, Open: 2}, false, 0, []int{0, 2, 3}, []int{1}},
		{"two passages apart", impl.Maze{Grid: small, Open: 3}, false, 0, []int{2, 3}, []int{0, 1}},
		{"a bend", impl.Maze{Grid: small, Open: 13}, true, 0, nil, []int{0, 2, 3}},
		{"all gaps open", impl.Maze{Grid: small, Open: 15}, false, 1, nil, nil},
		{"two bends", bentMaze(), false, 0, []int{1, 2, 5}, []int{0, 3, 4, 6}},
		{"a loop and two more cells", impl.Maze{Grid: impl.Grid{Wide: 3, High: 2}, Open: 1 + 4 + 16 + 32}, false, 1, []int{1, 3, 6}, nil},
		{"as many passages as a perfect maze, but a loop and a cell apart", impl.Maze{Grid: impl.Grid{Wide: 3, High: 2}, Open: 1 + 2 + 4 + 16 + 32}, false, 1, []int{3, 6}, []int{1}},
		{"a loop with a tail", impl.Maze{Grid: impl.Grid{Wide: 3, High: 2}, Open: 1 + 2 + 4 + 16 + 32 + 64}, false, 1, nil, []int{1, 6}},
		{"two loops side by side", impl.Maze{Grid: impl.Grid{Wide: 3, High: 2}, Open: 127}, false, 2, nil, nil},
		{"two loops and a bridge", impl.Maze{Grid: impl.Grid{Wide: 4, High: 2}, Open: 1 + 4 + 8 + 32 + 64 + 128 + 256 + 512 + 2}, false, 2, nil, []int{1}},
		{"two loops apart", impl.Maze{Grid: impl.Grid{Wide: 4, High: 2}, Open: 1 + 4 + 8 + 32 + 64 + 128 + 256 + 512}, false, 2, []int{1, 4}, nil},
		{"a cross and four corners", crossMaze(), false, 0, []int{0, 1, 4, 5, 6, 8, 9, 11}, []int{2, 3, 7, 10}},
		{"a ring around one cell", impl.Maze{Grid: impl.Grid{Wide: 3, High: 3}, Open: 4095 - 4 - 8 - 128 - 1024}, false, 1, []int{2, 3, 7, 10}, nil},
		{"all gaps of nine cells open", impl.Maze{Grid: impl.Grid{Wide: 3, High: 3}, Open: 4095}, false, 4, nil, nil},
		{"four rows", impl.Maze{Grid: large, Open: 4095}, false, 0, []int{12, 13, 14, 15, 16, 17, 18, 19, 20, 21, 22, 23}, rows},
		{"row by row", impl.Maze{Grid: large, Open: 4095 + 1<<15 + 1<<16 + 1<<23}, true, 0, nil, append(slices.Clone(rows), 15, 16, 23)},
		{"row by row and one loop", impl.Maze{Grid: large, Open: 4095 + 1<<15 + 1<<16 + 1<<23 + 1<<12}, false, 1, nil, []int{6, 7, 8, 9, 10, 11, 16, 23}},
		{"all gaps of the largest grid open", impl.Maze{Grid: large, Open: 1<<24 - 1}, false, 9, nil, nil},
	}
}

// checkPerfect holds each function that looks at a maze against what is expected of it.
func checkPerfect(t *testing.T, c perfectCase) {
	t.Helper()
	if got := impl.IsPerfect(c.m); got != c.perfect {
		t.Errorf("IsPerfect(%v) = %v, want %v", c.m, got, c.perfect)
	}
	if got := impl.CountLoops(c.m); got != c.loops {
		t.Errorf("CountLoops(%v) = %d, want %d", c.m, got, c.loops)
	}
	for gap := range gapsInOrder(c.m.Grid) {
		if got, want := impl.WouldJoin(c.m, gap), slices.Contains(c.joining, gap); got != want {
			t.Errorf("WouldJoin(%v, %d) = %v, want %v", c.m, gap, got, want)
		}
		if got, want := impl.IsBridge(c.m, gap), slices.Contains(c.bridges, gap); got != want {
			t.Errorf("IsBridge(%v, %d) = %v, want %v", c.m, gap, got, want)
		}
	}
}

func TestPerfectCases(t *testing.T) {
	for _, c := range perfectCases() {
		t.Run(c.name, func(t *testing.T) { checkPerfect(t, c) })
	}
}

// paint gives each cell of a maze the least number of a cell of its part, by painting the cells at each passage alike until nothing changes.
func paint(m impl.Maze) []int {
	colors := make([]int, m.Grid.Wide*m.Grid.High)
	for cell := range colors {
		colors[cell] = cell
	}
	for changed := true; changed; {
		changed = false
		for gap, ends := range gapsInOrder(m.Grid) {
			a, b := colors[ends.first], colors[ends.second]
			if isDrawnOpen(m, gap) && a != b {
				colors[ends.first], colors[ends.second] = min(a, b), min(a, b)
				changed = true
			}
		}
	}
	return colors
}

// withGap returns a maze with a gap opened or closed, by adding or taking away its power of 2.
func withGap(m impl.Maze, gap int, open bool) impl.Maze {
	power := 1
	for range gap {
		power *= 2
	}
	was := isDrawnOpen(m, gap)
	if open && !was {
		m.Open += power
	}
	if !open && was {
		m.Open -= power
	}
	return m
}

// drawnCase finds what is expected of a maze by painting. It counts the loops by closing passages that are no bridges, one after the other, until there are none.
func drawnCase(m impl.Maze) perfectCase {
	c := perfectCase{m: m}
	left := m
	for gap, ends := range gapsInOrder(m.Grid) {
		without, now := paint(withGap(m, gap, false)), paint(withGap(left, gap, false))
		apart := without[ends.first] != without[ends.second]
		switch {
		case !isDrawnOpen(m, gap) && apart:
			c.joining = append(c.joining, gap)
		case isDrawnOpen(m, gap) && apart:
			c.bridges = append(c.bridges, gap)
		}
		if isDrawnOpen(m, gap) && now[ends.first] == now[ends.second] {
			left = withGap(left, gap, false)
			c.loops++
		}
	}
	c.perfect = hasOneWay(m)
	return c
}

// hasOneWay reports whether just one way leads to each cell that passes no cell twice, and so is the only way between any two cells.
func hasOneWay(m impl.Maze) bool {
	steps := drawnSteps(m)
	arrivals := make([]int, len(steps))
	passed := make([]bool, len(steps))
	var walk func(cell int)
	walk = func(cell int) {
		arrivals[cell]++
		passed[cell] = true
		for _, next := range steps[cell] {
			// A second way to a cell settles it, and the largest grid has too many ways to walk them all.
			if next >= 0 && !passed[next] && arrivals[cell] == 1 {
				walk(next)
			}
		}
		passed[cell] = false
	}
	walk(0)
	return slices.Max(arrivals) == 1 && slices.Min(arrivals) == 1
}

// shuffledOrder holds the gaps of a grid in an order of its own for each k.
func shuffledOrder(g impl.Grid, k int) []int {
	order := make([]int, gapCounts[g.High-1][g.Wide-1])
	seed := k*7919 + 12345
	for i := range order {
		seed = (seed*1103515245 + 12345) % (1 << 31)
		place := seed / 65536 % (i + 1)
		order[i] = order[place]
		order[place] = i
	}
	return order
}

// drawnKruskal opens the gaps in order whose ends are painted differently.
func drawnKruskal(g impl.Grid, order []int) impl.Maze {
	m := impl.Maze{Grid: g}
	gaps := gapsInOrder(g)
	for _, gap := range order {
		if colors := paint(m); colors[gaps[gap].first] != colors[gaps[gap].second] {
			m = withGap(m, gap, true)
		}
	}
	return m
}

// almostPerfectMazes holds perfect mazes of a grid, each followed by the mazes in which one gap is changed.
func almostPerfectMazes(g impl.Grid) []impl.Maze {
	var list []impl.Maze
	for k := range 40 {
		m := drawnKruskal(g, shuffledOrder(g, k))
		list = append(list, m)
		for gap := range gapsInOrder(g) {
			list = append(list, withGap(m, gap, !isDrawnOpen(m, gap)))
		}
	}
	return list
}

func TestPerfectAsDrawn(t *testing.T) {
	for _, g := range allGrids() {
		for _, m := range append(someMazes(g), almostPerfectMazes(g)...) {
			checkPerfect(t, drawnCase(m))
		}
	}
}

// TestPerfectIsConnectedWithoutLoops is promise 5: a maze is perfect just if it is connected and has no loops. So each of its passages is a bridge, and no gap would join anything.
func TestPerfectIsConnectedWithoutLoops(t *testing.T) {
	for _, g := range allGrids() {
		for _, m := range append(someMazes(g), almostPerfectMazes(g)...) {
			connected, loops := impl.IsConnected(m), impl.CountLoops(m)
			if got, want := impl.IsPerfect(m), connected && loops == 0; got != want {
				t.Errorf("IsPerfect(%v) = %v, but IsConnected is %v and CountLoops %d", m, got, connected, loops)
			}
			bridges, joining := 0, 0
			for gap := range impl.CountGaps(g) {
				if impl.IsBridge(m, gap) {
					bridges++
				}
				if impl.WouldJoin(m, gap) {
					joining++
				}
			}
			if (joining == 0) != connected {
				t.Errorf("%v: %d gaps would join parts, but IsConnected is %v", m, joining, connected)
			}
			if (bridges == impl.CountPassages(m)) != (loops == 0) {
				t.Errorf("%v: %d of %d passages are bridges, but CountLoops is %d", m, bridges, impl.CountPassages(m), loops)
			}
		}
	}
}

// TestOneGapMore changes each gap of each maze: a gap that joins two parts makes no loop, and another one makes just one.
func TestOneGapMore(t *testing.T) {
	for _, g := range allGrids() {
		for _, m := range append(someMazes(g), almostPerfectMazes(g)...) {
			for gap := range impl.CountGaps(g) {
				opened, closed := withGap(m, gap, true), withGap(m, gap, false)
				joins := impl.WouldJoin(closed, gap)
				parts, loops := 0, 1
				if joins {
					parts, loops = 1, 0
				}
				if got := impl.CountParts(closed) - impl.CountParts(opened); got != parts {
					t.Errorf("%v: gap %d joins %d parts, want %d", m, gap, got, parts)
				}
				if got := impl.CountLoops(opened) - impl.CountLoops(closed); got != loops {
					t.Errorf("%v: gap %d makes %d loops, want %d", m, gap, got, loops)
				}
				if impl.IsBridge(opened, gap) != joins || impl.IsBridge(closed, gap) || impl.WouldJoin(opened, gap) {
					t.Errorf("%v: gap %d would join is %v, but as a passage it is a bridge is %v", m, gap, joins, impl.IsBridge(opened, gap))
				}
			}
		}
	}
}

// TestCountPerfectMazes counts the perfect mazes of the grids on which the numbers are known and small.
func TestCountPerfectMazes(t *testing.T) {
	cases := []struct{ wide, high, want int }{
		{1, 1, 1}, {2, 1, 1}, {1, 2, 1}, {4, 1, 1}, {1, 4, 1}, {2, 2, 4}, {3, 2, 15}, {2, 3, 15}, {4, 2, 56}, {2, 4, 56}, {3, 3, 192},
	}
	for _, c := range cases {
		g := impl.Grid{Wide: c.wide, High: c.high}
		got := 0
		for _, m := range someMazes(g) {
			if impl.IsPerfect(m) {
				got++
			}
		}
		if got != c.want {
			t.Errorf("%v has %d perfect mazes, want %d", g, got, c.want)
		}
	}
}

func TestPerfectOfOneCell(t *testing.T) {
	g := impl.Grid{Wide: 1, High: 1}
	m := impl.Maze{Grid: g}
	if !impl.IsPerfect(m) || impl.CountLoops(m) != 0 || impl.WouldJoin(m, 0) || impl.IsBridge(m, 0) {
		t.Errorf("unexpected result for %v", m)
	}
	for _, order := range [][]int{nil, {}} {
		if got, ok := impl.KruskalMaze(g, order); !ok || got != m {
			t.Errorf("KruskalMaze(%v, %v) = %v, %v, want %v, true", g, order, got, ok, m)
		}
	}
	for _, order := range [][]int{{0}, {-1}, {1}, {0, 0}} {
		if got, ok := impl.KruskalMaze(g, order); ok || got != (impl.Maze{}) {
			t.Errorf("KruskalMaze(%v, %v) = %v, %v, want the zero Maze and false", g, order, got, ok)
		}
	}
}

func TestPerfectWithoutPassages(t *testing.T) {
	for _, g := range allGrids() {
		m := impl.Maze{Grid: g}
		if got, want := impl.IsPerfect(m), g.Wide*g.High == 1; got != want {
			t.Errorf("IsPerfect(%v) = %v, want %v", m, got, want)
		}
		if got := impl.CountLoops(m); got != 0 {
			t.Errorf("CountLoops(%v) = %d, want 0", m, got)
		}
		for gap := range gapsInOrder(g) {
			if !impl.WouldJoin(m, gap) || impl.IsBridge(m, gap) {
				t.Errorf("%v: for gap %d WouldJoin is %v and IsBridge %v, want true and false", m, gap, impl.WouldJoin(m, gap), impl.IsBridge(m, gap))
			}
		}
	}
}

// TestPerfectInFullMaze: where all gaps are open, there is a loop around each corner that is not at the edge.
func TestPerfectInFullMaze(t *testing.T) {
	for _, g := range allGrids() {
		m := impl.FullMaze(g)
		narrow := g.Wide == 1 || g.High == 1
		if got := impl.IsPerfect(m); got != narrow {
			t.Errorf("IsPerfect(%v) = %v, want %v", m, got, narrow)
		}
		if got, want := impl.CountLoops(m), (g.Wide-1)*(g.High-1); got != want {
			t.Errorf("CountLoops(%v) = %d, want %d", m, got, want)
		}
		for gap := range gapsInOrder(g) {
			if impl.WouldJoin(m, gap) || impl.IsBridge(m, gap) != narrow {
				t.Errorf("%v: for gap %d WouldJoin is %v and IsBridge %v, want false and %v", m, gap, impl.WouldJoin(m, gap), impl.IsBridge(m, gap), narrow)
			}
		}
	}
}

// TestPerfectOfNoGap asks for gaps before the first and after the last one of mazes in which no gap, some gaps or all gaps are open.
func TestPerfectOfNoGap(t *testing.T) {
	for _, g := range allGrids() {
		n := gapCounts[g.High-1][g.Wide-1]
		mazes := []impl.Maze{{Grid: g}, drawnKruskal(g, shuffledOrder(g, 1)), impl.FullMaze(g)}
		for _, m := range mazes {
			for _, gap := range append([]int{-n - 1, -64, -2, -1, n, n + 1, n + 2, 24, 25, 63, 64, 65, 100}, extremeInts...) {
				if gap >= 0 && gap < n {
					continue
				}
				if impl.WouldJoin(m, gap) || impl.IsBridge(m, gap) {
					t.Errorf("%v: for no gap %d WouldJoin is %v and IsBridge %v, want false", m, gap, impl.WouldJoin(m, gap), impl.IsBridge(m, gap))
				}
			}
		}
	}
}

func TestPerfectInBadMazes(t *testing.T) {
	for _, m := range badMazes() {
		if got := impl.CountLoops(m); got != 0 || impl.IsPerfect(m) {
			t.Errorf("%v: CountLoops is %d and IsPerfect %v, want 0 and false", m, got, impl.IsPerfect(m))
		}
		for gap := -1; gap <= 25; gap++ {
			if impl.WouldJoin(m, gap) || impl.IsBridge(m, gap) {
				t.Errorf("%v: for gap %d WouldJoin is %v and IsBridge %v, want false", m, gap, impl.WouldJoin(m, gap), impl.IsBridge(m, gap))
			}
		}
	}
}

func TestKruskalMaze(t *testing.T) {
	one, row, small, wide := impl.Grid{Wide: 1, High: 1}, impl.Grid{Wide: 3, High: 1}, impl.Grid{Wide: 2, High: 2}, impl.Grid{Wide: 3, High: 2}
	large := impl.Grid{Wide: 4, High: 4}
	cases := []struct {
		name  string
		g     impl.Grid
		order []int
		open  int
		want  bool
	}{
		{"one cell", one, nil, 0, true},
		{"no order", small, nil, 0, false},
		{"an empty order", small, []int{}, 0, false},
		{"a row", row, []int{1, 0}, 3, true},
		{"a row in parts", row, []int{1}, 2, false},
		{"ascending", small, []int{0, 1, 2, 3}, 7, true},
		{"descending", small, []int{3, 2, 1, 0}, 14, true},
		{"mixed", small, []int{2, 0, 3, 1}, 13, true},
		{"mixed in another way", small, []int{1, 3, 0, 2}, 11, true},
		{"no more than needed", small, []int{3, 0, 2}, 13, true},
		{"repeated gaps", small, []int{1, 1, 1, 0, 1, 0, 3, 3, 2}, 11, true},
		{"repeated gaps in parts", small, []int{1, 1, 0, 0, 1, 0}, 3, false},
		{"one gap", small, []int{2}, 4, false},
		{"one gap again and again", small, []int{2, 2, 2, 2}, 4, false},
		{"a gap that would make a loop is left out", wide, []int{0, 4, 2, 5, 1}, 1 + 16 + 4 + 2, false},
		{"ascending in two rows", wide, []int{0, 1, 2, 3, 4, 5, 6}, 1 + 2 + 4 + 8 + 16, true},
		{"descending in two rows", wide, []int{6, 5, 4, 3, 2, 1, 0}, 64 + 32 + 16 + 8 + 4, true},
		{"the last gap joins", wide, []int{6, 3, 1, 5, 0, 2, 4}, 64 + 8 + 2 + 1 + 4, true},
		{"ascending in the largest grid", large, []int{0, 1, 2, 3, 4, 5, 6, 7, 8, 9, 10, 11, 12, 13, 14, 15, 16, 17, 18, 19, 20, 21, 22, 23}, 4095 + 1<<12 + 1<<16 + 1<<20, true},
	}
	for _, c := range cases {
		t.Run(c.name, func(t *testing.T) {
			got, ok := impl.KruskalMaze(c.g, c.order)
			if want := (impl.Maze{Grid: c.g, Open: c.open}); ok != c.want || got != want {
				t.Errorf("KruskalMaze(%v, %v) = %v, %v, want %v, %v", c.g, c.order, got, ok, want, c.want)
			}
		})
	}
}

// TestKruskalEveryOrder takes all orders of all gaps of the smaller grids: each one makes a perfect maze, and each perfect maze is made.
func TestKruskalEveryOrder(t *testing.T) {
	cases := []struct{ wide, high, trees int }{{1, 1, 1}, {2, 1, 1}, {1, 4, 1}, {4, 1, 1}, {2, 2, 4}, {3, 2, 15}, {2, 3, 15}}
	for _, c := range cases {
		g := impl.Grid{Wide: c.wide, High: c.high}
		made := map[impl.Maze]bool{}
		order := make([]int, 0, 7)
		var extend func()
		extend = func() {
			if len(order) == gapCounts[g.High-1][g.Wide-1] {
				got, ok := impl.KruskalMaze(g, order)
				if want := drawnKruskal(g, order); !ok || got != want || !impl.IsPerfect(got) {
					t.Errorf("KruskalMaze(%v, %v) = %v, %v, want %v, true", g, order, got, ok, want)
				}
				made[got] = true
				return
			}
			for gap := range gapsInOrder(g) {
				if !slices.Contains(order, gap) {
					order = append(order, gap)
					extend()
					order = order[:len(order)-1]
				}
			}
		}
		extend()
		if len(made) != c.trees {
			t.Errorf("the orders of %v make %d mazes, want %d", g, len(made), c.trees)
		}
	}
}

// TestKruskalAsDrawn cuts orders of all gaps short, and repeats their gaps: where the maze is left in parts, it is returned with false, and it never has a loop.
func TestKruskalAsDrawn(t *testing.T) {
	for _, g := range allGrids() {
		for k := range 20 {
			order := shuffledOrder(g, k)
			for n := range len(order) + 1 {
				for _, list := range [][]int{order[:n], append(slices.Clone(order[:n]), order[:n]...)} {
					want := drawnKruskal(g, list)
					got, ok := impl.KruskalMaze(g, list)
					if got != want || ok != hasOneWay(want) {
						t.Errorf("KruskalMaze(%v, %v) = %v, %v, want %v, %v", g, list, got, ok, want, hasOneWay(want))
					}
					if impl.CountLoops(got) != 0 || ok != impl.IsConnected(got) {
						t.Errorf("KruskalMaze(%v, %v) = %v, %v, which has %d loops and %d parts", g, list, got, ok, impl.CountLoops(got), impl.CountParts(got))
					}
				}
			}
		}
	}
}

// TestKruskalOrderLimit: 100 numbers are accepted, and the last one still counts; 101 are rejected, though the first ones make a perfect maze.
func TestKruskalOrderLimit(t *testing.T) {
	for _, g := range allGrids() {
		n := gapCounts[g.High-1][g.Wide-1]
		if n == 0 {
			continue
		}
		last := n - 1
		order := append(slices.Repeat([]int{0}, 99), last)
		want := withGap(withGap(impl.Maze{Grid: g}, 0, true), last, true)
		if got, ok := impl.KruskalMaze(g, order); got != want || ok != hasOneWay(want) {
			t.Errorf("KruskalMaze(%v) with 100 numbers = %v, %v, want %v, %v", g, got, ok, want, hasOneWay(want))
		}
		all := slices.Repeat(shuffledOrder(g, 3), 101)
		for _, length := range []int{99, 100} {
			want := drawnKruskal(g, all[:n])
			if got, ok := impl.KruskalMaze(g, all[:length]); !ok || got != want {
				t.Errorf("KruskalMaze(%v) with %d numbers = %v, %v, want %v, true", g, length, got, ok, want)
			}
		}
		for _, length := range []int{101, len(all)} {
			if got, ok := impl.KruskalMaze(g, all[:length]); ok || got != (impl.Maze{}) {
				t.Errorf("KruskalMaze(%v) with %d numbers = %v, %v, want the zero Maze and false", g, length, got, ok)
			}
		}
	}
}

// TestKruskalOfNoGap puts a number that is no gap before, among and behind the gaps of an order, and alone.
func TestKruskalOfNoGap(t *testing.T) {
	for _, g := range allGrids() {
		n := gapCounts[g.High-1][g.Wide-1]
		order := shuffledOrder(g, 2)
		for _, bad := range append([]int{-n - 1, -64, -2, -1, n, n + 1, n + 64, 64, 100}, extremeInts...) {
			for _, place := range []int{0, n / 2, n} {
				list := slices.Insert(slices.Clone(order), place, bad)
				if got, ok := impl.KruskalMaze(g, list); ok || got != (impl.Maze{}) {
					t.Errorf("KruskalMaze(%v, %v) = %v, %v, want the zero Maze and false", g, list, got, ok)
				}
			}
			if got, ok := impl.KruskalMaze(g, []int{bad}); ok || got != (impl.Maze{}) {
				t.Errorf("KruskalMaze(%v, %v) = %v, %v, want the zero Maze and false", g, []int{bad}, got, ok)
			}
		}
	}
}

func TestKruskalOfBadGrids(t *testing.T) {
	for _, g := range badGrids() {
		for _, order := range [][]int{nil, {0}, {-1}, {0, 1, 2, 3}, {24}, slices.Repeat([]int{0}, 100), slices.Repeat([]int{0}, 101)} {
			if got, ok := impl.KruskalMaze(g, order); ok || got != (impl.Maze{}) {
				t.Errorf("KruskalMaze(%v) with %d numbers = %v, %v, want the zero Maze and false", g, len(order), got, ok)
			}
		}
	}
}

// TestKruskalLeavesTheOrder looks at the order and at the memory behind it.
func TestKruskalLeavesTheOrder(t *testing.T) {
	whole := []int{3, 1, 1, 0, 2, 9, 9, 9}
	before := slices.Clone(whole)
	g := impl.Grid{Wide: 2, High: 2}
	if got, ok := impl.KruskalMaze(g, whole[:5]); !ok || got.Open != 11 {
		t.Errorf("KruskalMaze(%v, %v) = %v, %v, want Open 11 and true", g, before[:5], got, ok)
	}
	if !slices.Equal(whole, before) {
		t.Errorf("KruskalMaze changed its order from %v to %v", before, whole)
	}
}
