package tests

import (
	"slices"
	"strings"
	"testing"

	"loop.example/g00990/impl"
)

// turns reads the letters of the directions one by one.
func turns(text string) []int {
	way := []int{}
	for _, letter := range text {
		switch letter {
		case 'N':
			way = append(way, impl.North)
		case 'E':
			way = append(way, impl.East)
		case 'S':
			way = append(way, impl.South)
		case 'W':
			way = append(way, impl.West)
		}
	}
	return way
}

// rowByRow is 4 wide and 4 high. One way leads through it, to the east in the first row, to the west in the second one, and so on.
func rowByRow() impl.Maze {
	return impl.Maze{Grid: impl.Grid{Wide: 4, High: 4}, Open: 4095 + 1<<15 + 1<<16 + 1<<23}
}

// ringMaze is 3 wide and 3 high; its passages lead around the cell in the middle, which has none.
func ringMaze() impl.Maze {
	return impl.Maze{Grid: impl.Grid{Wide: 3, High: 3}, Open: 4095 - 4 - 8 - 128 - 1024}
}

func TestWayBetween(t *testing.T) {
	small := impl.Maze{Grid: impl.Grid{Wide: 2, High: 2}, Open: 13}
	full := impl.FullMaze(impl.Grid{Wide: 4, High: 4})
	cases := []struct {
		name string
		m    impl.Maze
		a, b int
		want string
	}{
		{"one cell", impl.Maze{Grid: impl.Grid{Wide: 1, High: 1}}, 0, 0, ""},
		{"to the east", impl.Maze{Grid: impl.Grid{Wide: 2, High: 1}, Open: 1}, 0, 1, "E"},
		{"to the west", impl.Maze{Grid: impl.Grid{Wide: 2, High: 1}, Open: 1}, 1, 0, "W"},
		{"to the south", impl.Maze{Grid: impl.Grid{Wide: 1, High: 2}, Open: 1}, 0, 1, "S"},
		{"to the north", impl.Maze{Grid: impl.Grid{Wide: 1, High: 2}, Open: 1}, 1, 0, "N"},
		{"around a wall", small, 2, 3, "NES"},
		{"back around a wall", small, 3, 2, "NWS"},
		{"a part of the way", small, 0, 3, "ES"},
		{"to the cell itself", small, 3, 3, ""},
		{"in a part of a maze", bentMaze(), 2, 4, "SW"},
		{"in another part", bentMaze(), 3, 1, "NE"},
		{"through a cross", crossMaze(), 1, 5, "SE"},
		{"straight through a cross", crossMaze(), 3, 5, "EE"},
		{"to the middle", crossMaze(), 7, 4, "N"},
		{"the longest way", rowByRow(), 0, 12, "EEESWWWSEEESWWW"},
		{"the longest way back", rowByRow(), 12, 0, "EEENWWWNEEENWWW"},
		{"the nearer way around", ringMaze(), 1, 3, "WS"},
		{"the other nearer way around", ringMaze(), 1, 8, "ESS"},
		{"two ways around, east before west", ringMaze(), 1, 7, "ESSW"},
		{"two ways around, again east before west", ringMaze(), 7, 1, "ENNW"},
		{"two ways around, north before south", ringMaze(), 5, 3, "NWWS"},
		{"two ways around, again north before south", ringMaze(), 3, 5, "NEES"},
		{"many ways, east before south", full, 0, 15, "EEESSS"},
		{"many ways, north before west", full, 15, 0, "NNNWWW"},
		{"many ways, north before east", full, 12, 3, "NNNEEE"},
		{"many ways, south before west", full, 3, 12, "SSSWWW"},
		{"the shortest way, though ways that begin to the north are longer", full, 5, 6, "E"},
		{"two ways that part at the first cell", impl.Maze{Grid: impl.Grid{Wide: 3, High: 2}, Open: 1 + 4 + 8 + 16 + 32}, 0, 5, "ESE"},
	}
	for _, c := range cases {
		t.Run(c.name, func(t *testing.T) {
			if got, ok := impl.WayBetween(c.m, c.a, c.b); !ok || !slices.Equal(got, turns(c.want)) {
				t.Errorf("WayBetween(%v, %d, %d) = %v, %v, want %q, true", c.m, c.a, c.b, got, ok, c.want)
			}
		})
	}
}

func TestNoWayBetween(t *testing.T) {
	cases := []struct {
		name string
		m    impl.Maze
		a, b int
	}{
		{"a wall", impl.Maze{Grid: impl.Grid{Wide: 2, High: 1}}, 0, 1},
		{"no passages", impl.Maze{Grid: impl.Grid{Wide: 4, High: 4}}, 0, 15},
		{"the other part", bentMaze(), 0, 4},
		{"back from the other part", bentMaze(), 4, 0},
		{"a neighbor in the other part", bentMaze(), 1, 2},
		{"a corner of a cross", crossMaze(), 4, 0},
		{"from a corner of a cross", crossMaze(), 8, 7},
		{"from corner to corner", crossMaze(), 0, 2},
		{"into a ring", ringMaze(), 0, 4},
		{"out of a ring", ringMaze(), 4, 0},
	}
	for _, c := range cases {
		t.Run(c.name, func(t *testing.T) {
			if got, ok := impl.WayBetween(c.m, c.a, c.b); ok || got != nil {
				t.Errorf("WayBetween(%v, %d, %d) = %v, %v, want nil, false", c.m, c.a, c.b, got, ok)
			}
		})
	}
}

// drawnWays returns, for each cell, the first of the shortest ways from a start, or nil if there is none. It goes on from the ways of one length to those that are one Step longer, and keeps the least for each cell.
func drawnWays(m impl.Maze, start int) [][]int {
	steps := drawnSteps(m)
	ways := make([][]int, len(steps))
	ways[start] = []int{}
	for length := range steps {
		for cell, way := range slices.Clone(ways) {
			if way == nil || len(way) != length {
				continue
			}
			for direction, next := range steps[cell] {
				if next < 0 {
					continue
				}
				longer := append(slices.Clone(way), direction)
				if ways[next] == nil || len(ways[next]) == len(longer) && slices.Compare(longer, ways[next]) < 0 {
					ways[next] = longer
				}
			}
		}
	}
	return ways
}

func TestWaysAsDrawn(t *testing.T) {
	for _, g := range allGrids() {
		for _, m := range someMazes(g) {
			for a := range g.Wide * g.High {
				for b, want := range drawnWays(m, a) {
					got, ok := impl.WayBetween(m, a, b)
					if ok != (want != nil) || !slices.Equal(got, want) {
						t.Errorf("WayBetween(%v, %d, %d) = %v, %v, want %v", m, a, b, got, ok, want)
					}
				}
			}
		}
	}
}

// TestFirstOfManyWays: where all gaps are open, the shortest ways go the needed Steps in every order, and the first one goes to the north, then east, south and west.
func TestFirstOfManyWays(t *testing.T) {
	for _, g := range allGrids() {
		m := impl.FullMaze(g)
		for a := range g.Wide * g.High {
			for b := range g.Wide * g.High {
				east, south := b%g.Wide-a%g.Wide, b/g.Wide-a/g.Wide
				want := strings.Repeat("N", max(0, -south)) + strings.Repeat("E", max(0, east)) + strings.Repeat("S", max(0, south)) + strings.Repeat("W", max(0, -east))
				if got, ok := impl.WayBetween(m, a, b); !ok || impl.WayText(got) != want {
					t.Errorf("WayBetween(%v, %d, %d) = %v, %v, want %q, true", m, a, b, got, ok, want)
				}
			}
		}
	}
}

// checkWay is promise 6 for two cells: a way arrives, has the length of the distance, and leads back.
func checkWay(t *testing.T, m impl.Maze, a, b int) {
	t.Helper()
	distance := impl.DistanceOf(m, a, b)
	way, ok := impl.WayBetween(m, a, b)
	if ok != (distance >= 0) {
		t.Errorf("%v: a way from %d to %d is %v, but the distance is %d", m, a, b, ok, distance)
	}
	if !ok {
		return
	}
	if len(way) != distance {
		t.Errorf("%v: the way from %d to %d is %v, but the distance is %d", m, a, b, way, distance)
	}
	if end, ok := impl.WalkWay(m, a, way); !ok || end != b {
		t.Errorf("%v: the way from %d to %d, %v, ends at %d, %v", m, a, b, way, end, ok)
	}
	back := impl.ReverseWay(way)
	if end, ok := impl.WalkWay(m, b, back); len(back) != len(way) || !ok || end != a {
		t.Errorf("%v: the way back from %d to %d, %v, ends at %d, %v", m, b, a, back, end, ok)
	}
	if again := impl.ReverseWay(back); !slices.Equal(again, way) {
		t.Errorf("ReverseWay(%v) = %v, want %v", back, again, way)
	}
	there, homeward := impl.CellsOn(m, a, way), impl.CellsOn(m, b, back)
	slices.Reverse(homeward)
	if len(there) != len(way)+1 || !slices.Equal(there, homeward) {
		t.Errorf("%v: the cells on %v are %v, and those on the way back %v reversed", m, way, there, homeward)
	}
	if read, ok := impl.ParseWay(impl.WayText(way)); !ok || !slices.Equal(read, way) {
		t.Errorf("%v is read back as %v, %v", way, read, ok)
	}
	for i, cell := range there {
		if slices.Contains(there[:i], cell) || impl.DistanceOf(m, a, cell) != i || impl.DistanceOf(m, cell, b) != distance-i {
			t.Errorf("%v: the cells from %d to %d are %v, with %d at place %d", m, a, b, there, cell, i)
		}
	}
}

func TestWayArrivesAndLeadsBack(t *testing.T) {
	for _, g := range allGrids() {
		mazes := someMazes(g)
		for i, m := range mazes {
			// All mazes of 9 cells are more than this check needs.
			if len(mazes) > 1000 && i%7 != 0 {
				continue
			}
			for a := range g.Wide * g.High {
				for b := range g.Wide * g.High {
					checkWay(t, m, a, b)
				}
			}
		}
	}
}

func TestWayInPerfectMazes(t *testing.T) {
	for _, g := range allGrids() {
		for k := range 10 {
			m := drawnKruskal(g, shuffledOrder(g, k))
			for a := range g.Wide * g.High {
				for b := range g.Wide * g.High {
					checkWay(t, m, a, b)
					// There is just one way, so the way back is the way from the other end.
					way, _ := impl.WayBetween(m, a, b)
					if back, ok := impl.WayBetween(m, b, a); !ok || !slices.Equal(back, impl.ReverseWay(way)) {
						t.Errorf("%v: the ways between %d and %d are %v and %v", m, a, b, way, back)
					}
				}
			}
		}
	}
}

// TestEmptyWay: the empty way stays where it begins, in every valid maze, and is its own way back. Its text is the empty string.
func TestEmptyWay(t *testing.T) {
	for _, g := range allGrids() {
		for _, m := range []impl.Maze{{Grid: g}, drawnKruskal(g, shuffledOrder(g, 3)), impl.FullMaze(g)} {
			for cell := range g.Wide * g.High {
				if way, ok := impl.WayBetween(m, cell, cell); !ok || len(way) != 0 {
					t.Errorf("WayBetween(%v, %d, %d) = %v, %v, want the empty way", m, cell, cell, way, ok)
				}
				for _, way := range [][]int{nil, {}} {
					if end, ok := impl.WalkWay(m, cell, way); !ok || end != cell {
						t.Errorf("WalkWay(%v, %d, %v) = %d, %v, want %d, true", m, cell, way, end, ok, cell)
					}
					if cells := impl.CellsOn(m, cell, way); !slices.Equal(cells, []int{cell}) {
						t.Errorf("CellsOn(%v, %d, %v) = %v, want %d alone", m, cell, way, cells, cell)
					}
				}
			}
		}
	}
	for _, way := range [][]int{nil, {}} {
		if back := impl.ReverseWay(way); len(back) != 0 {
			t.Errorf("ReverseWay(%v) = %v, want the empty way", way, back)
		}
		if text := impl.WayText(way); text != "" {
			t.Errorf("WayText(%v) = %q, want the empty string", way, text)
		}
	}
	if way, ok := impl.ParseWay(""); !ok || len(way) != 0 {
		t.Errorf("ParseWay of the empty string = %v, %v, want the empty way, true", way, ok)
	}
}

func TestWalkWay(t *testing.T) {
	small := impl.Maze{Grid: impl.Grid{Wide: 2, High: 2}, Open: 13}
	full := impl.FullMaze(impl.Grid{Wide: 3, High: 2})
	cases := []struct {
		name string
		m    impl.Maze
		cell int
		way  []int
		want []int
	}{
		{"one Step", small, 0, turns("E"), []int{0, 1}},
		{"around a wall", small, 2, turns("NES"), []int{2, 0, 1, 3}},
		{"there and back", small, 2, turns("NS"), []int{2, 0, 2}},
		{"to the end and back to the begin", small, 2, turns("NESNWS"), []int{2, 0, 1, 3, 1, 0, 2}},
		{"around a loop", full, 0, turns("ESWN"), []int{0, 1, 4, 3, 0}},
		{"around a loop twice", full, 0, turns("ESWNESWN"), []int{0, 1, 4, 3, 0, 1, 4, 3, 0}},
		{"around two loops", full, 1, turns("WSEENW"), []int{1, 0, 3, 4, 5, 2, 1}},
		{"a longer way than needed", full, 0, turns("SENES"), []int{0, 3, 4, 1, 2, 5}},
		{"through a cross again and again", crossMaze(), 1, turns("SEWSNW"), []int{1, 4, 5, 4, 7, 4, 3}},
		{"against a wall", small, 2, turns("E"), nil},
		{"against a wall after a Step", small, 0, turns("SE"), nil},
		{"against a wall at the end", small, 0, turns("ESW"), nil},
		{"against a wall and then a way that would go on", small, 3, turns("WN"), nil},
		{"past the northern edge", full, 1, turns("N"), nil},
		{"past the eastern edge", full, 2, turns("E"), nil},
		{"past the eastern edge into the next row", full, 2, turns("ES"), nil},
		{"past the southern edge", full, 4, turns("S"), nil},
		{"past the western edge", full, 3, turns("W"), nil},
		{"past the western edge after Steps", full, 5, turns("WWW"), nil},
		{"past the edge and back", full, 0, turns("NS"), nil},
		{"in one cell", impl.Maze{Grid: impl.Grid{Wide: 1, High: 1}}, 0, turns("N"), nil},
		{"without passages", impl.Maze{Grid: impl.Grid{Wide: 3, High: 3}}, 4, turns("W"), nil},
		{"a negative direction", full, 0, []int{-1}, nil},
		{"a direction above West", full, 0, []int{4}, nil},
		{"a direction above West that is East in fours", full, 0, []int{5}, nil},
		{"a negative direction that is East in fours", full, 0, []int{-3}, nil},
		{"a direction above West after Steps", full, 0, []int{impl.East, impl.South, 4}, nil},
		{"a negative direction between Steps", full, 0, []int{impl.East, -1, impl.South}, nil},
	}
	for _, c := range cases {
		t.Run(c.name, func(t *testing.T) { checkWalk(t, c.m, c.cell, c.way, c.want) })
	}
}

// checkWalk holds WalkWay and CellsOn against the cells that are expected, none if the walk fails.
func checkWalk(t *testing.T, m impl.Maze, cell int, way []int, want []int) {
	t.Helper()
	end, arrives := -1, len(want) > 0
	if arrives {
		end = want[len(want)-1]
	}
	if got, ok := impl.WalkWay(m, cell, way); got != end || ok != arrives {
		t.Errorf("WalkWay(%v, %d, %v) = %d, %v, want %d, %v", m, cell, way, got, ok, end, arrives)
	}
	if got := impl.CellsOn(m, cell, way); !slices.Equal(got, want) {
		t.Errorf("CellsOn(%v, %d, %v) = %v, want %v", m, cell, way, got, want)
	}
}

// shortWays holds all ways of up to four numbers from -1, which is no direction, to 4, which is none either.
func shortWays() [][]int {
	list := [][]int{{}}
	for i := 0; len(list[i]) < 4; i++ {
		for number := -1; number <= 4; number++ {
			list = append(list, append(slices.Clone(list[i]), number))
		}
	}
	return list
}

// drawnWalk returns the cells on a way, or nil if the way cannot be walked.
func drawnWalk(m impl.Maze, cell int, way []int) []int {
	steps := drawnSteps(m)
	cells := []int{cell}
	for _, number := range way {
		if number < 0 || number > 3 || steps[cell][number] < 0 {
			return nil
		}
		cell = steps[cell][number]
		cells = append(cells, cell)
	}
	return cells
}

func TestWalksAsDrawn(t *testing.T) {
	mazes := append(someMazes(impl.Grid{Wide: 2, High: 2}), someMazes(impl.Grid{Wide: 4, High: 1})...)
	mazes = append(mazes, bentMaze(), crossMaze(), ringMaze(), rowByRow(), impl.FullMaze(impl.Grid{Wide: 4, High: 3}))
	ways := shortWays()
	for _, m := range mazes {
		for cell := range m.Grid.Wide * m.Grid.High {
			for _, way := range ways {
				checkWalk(t, m, cell, way, drawnWalk(m, cell, way))
			}
		}
	}
}

// TestWalkLimit walks to and fro: 400 directions are walked, 401 are not.
func TestWalkLimit(t *testing.T) {
	m := bentMaze()
	toAndFro := func(n int) ([]int, []int) {
		way, cells := turns(strings.Repeat("EW", n))[:n], []int{0}
		for i := range n {
			cells = append(cells, (i+1)%2)
		}
		return way, cells
	}
	for _, n := range []int{1, 2, 100, 101, 200, 201, 399, 400} {
		way, cells := toAndFro(n)
		checkWalk(t, m, 0, way, cells)
	}
	for _, n := range []int{401, 402, 500, 1000, 20001} {
		way, _ := toAndFro(n)
		checkWalk(t, m, 0, way, nil)
	}
	way, _ := toAndFro(400)
	way[399] = impl.North
	checkWalk(t, m, 0, way, nil)
	way[399] = 4
	checkWalk(t, m, 0, way, nil)
	round := turns(strings.Repeat("EESSWWNN", 50))
	if end, ok := impl.WalkWay(ringMaze(), 0, round); !ok || end != 0 {
		t.Errorf("50 times around ends at %d, %v, want 0, true", end, ok)
	}
	if cells := impl.CellsOn(ringMaze(), 0, round); len(cells) != 401 || cells[400] != 0 || cells[396] != 8 || slices.Contains(cells, 4) {
		t.Errorf("50 times around leads through %v", cells)
	}
	checkWalk(t, ringMaze(), 0, append(round, impl.East), nil)
}

func TestReverseWay(t *testing.T) {
	cases := []struct{ way, want string }{
		{"N", "S"}, {"E", "W"}, {"S", "N"}, {"W", "E"},
		{"NN", "SS"}, {"NS", "NS"}, {"EW", "EW"}, {"NE", "WS"}, {"SW", "EN"},
		{"NES", "NWS"}, {"NESW", "ENWS"}, {"EEESWWWSEEESWWW", "EEENWWWNEEENWWW"},
		{strings.Repeat("NE", 200), strings.Repeat("WS", 200)},
		{strings.Repeat("E", 401), strings.Repeat("W", 401)},
		{strings.Repeat("SSW", 1000), strings.Repeat("ENN", 1000)},
	}
	for _, c := range cases {
		if got := impl.ReverseWay(turns(c.way)); !slices.Equal(got, turns(c.want)) {
			t.Errorf("ReverseWay of %q = %v, want %q", c.way, got, c.want)
		}
	}
}

// isWay reports whether all numbers are directions.
func isWay(numbers []int) bool {
	return !slices.ContainsFunc(numbers, func(number int) bool { return !slices.Contains(allDirections, number) })
}

func TestShortWaysBackAndAsText(t *testing.T) {
	opposites := [4]int{impl.South, impl.West, impl.North, impl.East}
	letters := [4]string{"N", "E", "S", "W"}
	for _, way := range shortWays() {
		back, text := []int{}, ""
		if isWay(way) {
			for _, direction := range way {
				back = slices.Insert(back, 0, opposites[direction])
				text += letters[direction]
			}
		}
		if got := impl.ReverseWay(way); !slices.Equal(got, back) {
			t.Errorf("ReverseWay(%v) = %v, want %v", way, got, back)
		}
		if got := impl.WayText(way); got != text {
			t.Errorf("WayText(%v) = %q, want %q", way, got, text)
		}
		if got, ok := impl.ParseWay(text); isWay(way) && (!ok || !slices.Equal(got, way)) {
			t.Errorf("ParseWay(%q) = %v, %v, want %v, true", text, got, ok, way)
		}
	}
}

// TestNoDirectionInAWay puts a number that is no direction at each place of a way.
func TestNoDirectionInAWay(t *testing.T) {
	m := impl.FullMaze(impl.Grid{Wide: 4, High: 4})
	for _, number := range append([]int{-8, -5, -4, -3, -2, -1, 4, 5, 6, 7, 8, 256, 257}, extremeInts...) {
		for place := range 5 {
			way := slices.Insert(turns("ESEN"), place, number)
			if got := impl.ReverseWay(way); len(got) != 0 {
				t.Errorf("ReverseWay(%v) = %v, want none", way, got)
			}
			if got := impl.WayText(way); got != "" {
				t.Errorf("WayText(%v) = %q, want the empty string", way, got)
			}
			checkWalk(t, m, 5, way, nil)
		}
	}
}

func TestWayText(t *testing.T) {
	for _, text := range []string{"N", "E", "S", "W", "NESW", "WSEN", "NN", "EEE", "SSWWSNE", strings.Repeat("WSNE", 100), strings.Repeat("E", 401), strings.Repeat("SNEW", 6000)} {
		if got := impl.WayText(turns(text)); got != text {
			t.Errorf("WayText(%v) = %q, want %q", turns(text), got, text)
		}
		if got, ok := impl.ParseWay(text); !ok || !slices.Equal(got, turns(text)) {
			t.Errorf("ParseWay(%q) = %v, %v, want %v, true", text, got, ok, turns(text))
		}
	}
}

func TestParseWayOfNoText(t *testing.T) {
	texts := []string{
		" ", "n", "e", "s", "w", "nesw", "NESw", "nESW", "NE SW", " N", "N ", "N\n", "N,E", "N\x00", "0", "1", "0123", "-", "-1", "NORTH", "North",
		"\u004e\u0301", "\u00d1", "\u0415", "\uff2e", "\uff37", "\xce", "N\xff", "\xc5E", "NESWX", "XNESW", "NEXSW",
		strings.Repeat("N", 400) + "n", strings.Repeat("N", 20000) + "?",
	}
	for _, text := range texts {
		if got, ok := impl.ParseWay(text); ok || got != nil {
			t.Errorf("ParseWay(%q) = %v, %v, want nil, false", text, got, ok)
		}
	}
}

// TestParseWayBytes tries each byte alone, and before, between and behind the letters of a way.
func TestParseWayBytes(t *testing.T) {
	for _, letter := range []byte(allBytes()) {
		c := string([]byte{letter})
		for _, text := range []string{c, c + "NE", "N" + c + "E", "NE" + c} {
			got, ok := impl.ParseWay(text)
			if want := strings.Contains("NESW", c); ok != want {
				t.Errorf("ParseWay(%q) is %v, want %v", text, ok, want)
			}
			if ok && (len(got) != len(text) || impl.WayText(got) != text) || !ok && got != nil {
				t.Errorf("ParseWay(%q) = %v, %v", text, got, ok)
			}
		}
	}
}

// TestWayOfNoCell asks for cells before the first and after the last one, also together with a cell of the maze, with the empty way and with ways that would lead back into the maze.
func TestWayOfNoCell(t *testing.T) {
	for _, g := range allGrids() {
		n := g.Wide * g.High
		for _, m := range []impl.Maze{{Grid: g}, impl.FullMaze(g)} {
			for _, cell := range append([]int{-n, -g.Wide, -2, -1, n, n + 1, n + g.Wide, 100}, extremeInts...) {
				for _, other := range []int{0, n - 1, cell} {
					for _, pair := range [][2]int{{cell, other}, {other, cell}} {
						if way, ok := impl.WayBetween(m, pair[0], pair[1]); ok || way != nil {
							t.Errorf("WayBetween(%v, %d, %d) = %v, %v, want nil, false", m, pair[0], pair[1], way, ok)
						}
					}
				}
				for _, text := range []string{"", "N", "E", "S", "W"} {
					checkWalk(t, m, cell, turns(text), nil)
				}
			}
		}
	}
}

func TestWayInBadMazes(t *testing.T) {
	for _, m := range badMazes() {
		for cell := -1; cell <= 16; cell++ {
			for _, other := range []int{0, 1, cell} {
				if way, ok := impl.WayBetween(m, cell, other); ok || way != nil {
					t.Errorf("WayBetween(%v, %d, %d) = %v, %v, want nil, false", m, cell, other, way, ok)
				}
			}
			for _, text := range []string{"", "N", "E", "S", "W"} {
				checkWalk(t, m, cell, turns(text), nil)
			}
		}
	}
}

// TestWayIsLeftAlone hands over a way with spare capacity, which no function may change.
func TestWayIsLeftAlone(t *testing.T) {
	all := turns("NESNNN")
	way := all[:3]
	m := impl.Maze{Grid: impl.Grid{Wide: 2, High: 2}, Open: 13}
	back := impl.ReverseWay(way)
	impl.WalkWay(m, 2, way)
	cells := impl.CellsOn(m, 2, way)
	impl.WayText(way)
	for i := range back {
		back[i] = 9
	}
	for i := range cells {
		cells[i] = 9
	}
	if want := turns("NESNNN"); !slices.Equal(all, want) {
		t.Errorf("the way is %v, want %v", all, want)
	}
}

func TestWayIsNewMemory(t *testing.T) {
	m := rowByRow()
	first, _ := impl.WayBetween(m, 0, 5)
	read, _ := impl.ParseWay("EEESWW")
	cells := impl.CellsOn(m, 0, first)
	for i := range first {
		first[i], read[i], cells[i] = 9, 9, 9
	}
	if again, ok := impl.WayBetween(m, 0, 5); !ok || impl.WayText(again) != "EEESWW" {
		t.Errorf("WayBetween = %v, %v after a result was changed", again, ok)
	}
	if again, ok := impl.ParseWay("EEESWW"); !ok || !slices.Equal(again, turns("EEESWW")) {
		t.Errorf("ParseWay = %v, %v after a result was changed", again, ok)
	}
	if again := impl.CellsOn(m, 0, turns("EEESWW")); !slices.Equal(again, []int{0, 1, 2, 3, 7, 6, 5}) {
		t.Errorf("CellsOn = %v after a result was changed", again)
	}
}
