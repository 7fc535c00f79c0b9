package tests

import (
	"slices"
	"strconv"
	"strings"
	"testing"

	"loop.example/g00990/impl"
)

// walkOf reads walkers that are written as a cell and the letter of a direction, like "12N".
func walkOf(text string) []impl.Walker {
	var walk []impl.Walker
	for _, field := range strings.Fields(text) {
		last := len(field) - 1
		cell, _ := strconv.Atoi(field[:last])
		walk = append(walk, impl.Walker{Cell: cell, Facing: turns(field[last:])[0]})
	}
	return walk
}

// allWalkers holds the walkers in each cell of a grid who face each direction.
func allWalkers(g impl.Grid) []impl.Walker {
	var list []impl.Walker
	for cell := range g.Wide * g.High {
		for _, facing := range allDirections {
			list = append(list, impl.Walker{Cell: cell, Facing: facing})
		}
	}
	return list
}

// handCase is a maze, the first walkers of a walk in it, after how many steps the first one is there again (0 if never), and the cells that are visited sooner or later.
type handCase struct {
	name    string
	m       impl.Maze
	walk    []impl.Walker
	cycle   int
	visited []int
}

func handCases() []handCase {
	one, pair, upright, small := impl.Grid{Wide: 1, High: 1}, impl.Grid{Wide: 2, High: 1}, impl.Grid{Wide: 1, High: 2}, impl.Grid{Wide: 2, High: 2}
	row, column, nine, large := impl.Grid{Wide: 4, High: 1}, impl.Grid{Wide: 1, High: 4}, impl.Grid{Wide: 3, High: 3}, impl.Grid{Wide: 4, High: 4}
	bend := impl.Maze{Grid: small, Open: 13}
	both, four, eight, nineCells := []int{0, 1}, []int{0, 1, 2, 3}, []int{0, 1, 2, 3, 5, 6, 7, 8}, []int{0, 1, 2, 3, 4, 5, 6, 7, 8}
	sixteen := append(slices.Clone(nineCells), 9, 10, 11, 12, 13, 14, 15)
	return []handCase{
		{"one cell, north", impl.Maze{Grid: one}, walkOf("0N 0S 0N 0S"), 2, []int{0}},
		{"one cell, east", impl.Maze{Grid: one}, walkOf("0E 0W 0E"), 2, []int{0}},
		{"one cell, south", impl.Maze{Grid: one}, walkOf("0S 0N 0S"), 2, []int{0}},
		{"one cell, west", impl.Maze{Grid: one}, walkOf("0W 0E 0W 0E 0W"), 2, []int{0}},
		{"two cells and a wall", impl.Maze{Grid: pair}, walkOf("1W 1E 1W"), 2, []int{1}},
		{"two cells and a passage", impl.FullMaze(pair), walkOf("0W 1E 0W 1E 0W"), 2, both},
		{"two cells, from the passage away", impl.FullMaze(pair), walkOf("1W 0W 1E 0W 1E"), 0, both},
		{"two cells, the passage ahead", impl.FullMaze(pair), walkOf("0E 1E 0W 1E 0W"), 0, both},
		{"two cells, the passage to the right", impl.FullMaze(pair), walkOf("0N 1E 0W 1E 0W"), 0, both},
		{"two cells, the passage to the left", impl.FullMaze(pair), walkOf("0S 1E 0W 1E 0W"), 0, both},
		{"two cells one above the other", impl.FullMaze(upright), walkOf("0N 1S 0N 1S"), 2, both},
		{"two cells one above the other, the passage to the left", impl.FullMaze(upright), walkOf("1E 0N 1S 0N"), 0, both},
		{"a row", impl.FullMaze(row), walkOf("0W 1E 2E 3E 2W 1W 0W"), 6, four},
		{"a row, across", impl.FullMaze(row), walkOf("2N 3E 2W 1W 0W 1E 2E 3E"), 0, four},
		{"a row, across the other way", impl.FullMaze(row), walkOf("2S 1W 0W 1E 2E 3E 2W 1W"), 0, four},
		{"a row in two halves", impl.Maze{Grid: row, Open: 5}, walkOf("2W 3E 2W"), 2, []int{2, 3}},
		{"a column", impl.FullMaze(column), walkOf("3S 2N 1N 0N 1S 2S 3S"), 6, four},
		{"a column, across", impl.FullMaze(column), walkOf("1E 2S 3S 2N 1N 0N 1S 2S"), 0, four},
		{"around a wall", bend, walkOf("0N 1E 3S 1N 0W 2S 0N"), 6, four},
		{"around a wall from its end", bend, walkOf("2S 0N 1E 3S 1N 0W 2S"), 6, four},
		{"around a wall, never back", bend, walkOf("2N 0N 1E 3S 1N 0W 2S 0N"), 0, four},
		{"around a wall, never back from its other end", bend, walkOf("3W 1N 0W 2S 0N 1E 3S 1N"), 0, four},
		{"all gaps of four cells open, around the middle", impl.FullMaze(small), walkOf("0N 1E 3S 2W 0N"), 4, four},
		{"all gaps of four cells open, around the outside", impl.FullMaze(small), walkOf("0W 2S 3E 1N 0W"), 4, four},
		{"all gaps of four cells open, never back", impl.FullMaze(small), walkOf("0E 2S 3E 1N 0W 2S"), 0, four},
		{"a part", bentMaze(), walkOf("0W 3S 0N 1E 0W"), 4, []int{0, 1, 3}},
		{"the other part", bentMaze(), walkOf("2N 5S 4W 5E 2N"), 4, []int{2, 4, 5}},
		{"a cross", crossMaze(), walkOf("4N 5E 4W 1N 4S 3W 4E 7S 4N"), 8, []int{1, 3, 4, 5, 7}},
		{"the end of a cross", crossMaze(), walkOf("1N 4S 3W 4E 7S 4N 5E 4W 1N"), 8, []int{1, 3, 4, 5, 7}},
		{"a corner beside a cross", crossMaze(), walkOf("8E 8W 8E"), 2, []int{8}},
		{"a ring, around the inside", ringMaze(), walkOf("1E 2E 5S 8S 7W 6W 3N 0N 1E"), 8, eight},
		{"a ring, around the outside", ringMaze(), walkOf("1W 0W 3S 6S 7E 8E 5N 2N 1W"), 8, eight},
		{"inside a ring", ringMaze(), walkOf("4S 4N 4S"), 2, []int{4}},
		{"around an island", islandMaze(), walkOf("0N 1E 2E 5S 4W 3W 0N"), 6, []int{0, 1, 2, 3, 4, 5}},
		{"a loop with a tail, from the outside", tailMaze(), walkOf("0W 3S 4E 1N 2E 5S 2N 1W 0W"), 8, []int{0, 1, 2, 3, 4, 5}},
		{"a loop with a tail, from the inside", tailMaze(), walkOf("0N 1E 4S 3W 0N"), 4, []int{0, 1, 3, 4}},
		{"cells of every kind", everyKindMaze(), walkOf("4N 5E 4W 1N 2E 1W 0W 1E 4S 3W 6S 3N 4E 7S 4N"), 14, []int{0, 1, 2, 3, 4, 5, 6, 7}},
		{"all gaps of nine cells open, around one corner", impl.FullMaze(nine), walkOf("4N 5E 8S 7W 4N"), 4, []int{4, 5, 7, 8}},
		{"all gaps of nine cells open, around the outside", impl.FullMaze(nine), walkOf("0W 3S 6S 7E 8E 5N 2N 1W 0W"), 8, eight},
		{"row by row", rowByRow(), walkOf("0W 1E 2E 3E 7S 6W 5W 4W 8S 9E 10E 11E 15S 14W 13W 12W 13E 14E 15E 11N 10W 9W 8W 4N 5E 6E 7E 3N 2W 1W 0W"), 30, sixteen},
		{"a comb", combMaze(), walkOf("3E 2W 1W 0W 4S 8S 12S 13E 14E 15E 14W 13W 12W 8N 9E 10E 11E 10W 9W 8W 4N 5E 6E 7E 6W 5W 4W 0N 1E 2E 3E"), 30, sixteen},
		{"the largest grid without passages", impl.Maze{Grid: large}, walkOf("15S 15N 15S"), 2, []int{15}},
		{"all gaps of the largest grid open, around one corner", impl.FullMaze(large), walkOf("5N 6E 10S 9W 5N"), 4, []int{5, 6, 9, 10}},
		{"all gaps of the largest grid open, around the outside", impl.FullMaze(large), walkOf("0W 4S 8S 12S 13E 14E 15E 11N 7N 3N 2W 1W 0W"), 12, []int{0, 1, 2, 3, 4, 7, 8, 11, 12, 13, 14, 15}},
		{"all gaps of the largest grid open, never back", impl.FullMaze(large), walkOf("1S 0W 4S 8S 12S 13E"), 0, []int{0, 1, 2, 3, 4, 7, 8, 11, 12, 13, 14, 15}},
	}
}

// checkHand holds each function of the chapter against what is expected of a walk.
func checkHand(t *testing.T, c handCase) {
	t.Helper()
	w, n := c.walk[0], len(c.walk)-1
	if !impl.WalkerOk(c.m, w) {
		t.Errorf("WalkerOk(%v, %v) = false, want true", c.m, w)
	}
	if got := impl.HandWalk(c.m, w, n); !slices.Equal(got, c.walk) {
		t.Errorf("HandWalk(%v, %v, %d) = %v, want %v", c.m, w, n, got, c.walk)
	}
	for i := range n {
		if got := impl.HandStep(c.m, c.walk[i]); got != c.walk[i+1] {
			t.Errorf("HandStep(%v, %v) = %v, want %v", c.m, c.walk[i], got, c.walk[i+1])
		}
	}
	if got := impl.HandCycle(c.m, w); got != c.cycle {
		t.Errorf("HandCycle(%v, %v) = %d, want %d", c.m, w, got, c.cycle)
	}
	if got := impl.CellsVisited(c.m, w); !slices.Equal(got, c.visited) {
		t.Errorf("CellsVisited(%v, %v) = %v, want %v", c.m, w, got, c.visited)
	}
	// The numbers around the cells are no goals.
	for goal := -1; goal <= c.m.Grid.Wide*c.m.Grid.High; goal++ {
		if got, want := impl.HandReaches(c.m, w, goal), slices.Contains(c.visited, goal); got != want {
			t.Errorf("HandReaches(%v, %v, %d) = %v, want %v", c.m, w, goal, got, want)
		}
	}
}

func TestHandCases(t *testing.T) {
	for _, c := range handCases() {
		t.Run(c.name, func(t *testing.T) {
			checkHand(t, c)
			checkHand(t, drawnHand(c.m, c.walk[0]))
		})
	}
}

// handOrders has, for each direction that is faced, the directions in the order in which the right hand tries them.
var handOrders = [4]string{"ENWS", "SENW", "WSEN", "NWSE"}

// drawnHandStep does one step, given where the steps of the maze lead.
func drawnHandStep(steps [][4]int, w impl.Walker) impl.Walker {
	order := turns(handOrders[w.Facing])
	for _, direction := range order {
		if next := steps[w.Cell][direction]; next >= 0 {
			return impl.Walker{Cell: next, Facing: direction}
		}
	}
	return impl.Walker{Cell: w.Cell, Facing: order[3]}
}

// drawnHand finds what is expected of a walker by walking 200 steps.
func drawnHand(m impl.Maze, w impl.Walker) handCase {
	steps := drawnSteps(m)
	c := handCase{m: m, walk: []impl.Walker{w}}
	there := make([]bool, len(steps))
	there[w.Cell] = true
	for n := 1; n <= 200; n++ {
		later := drawnHandStep(steps, c.walk[n-1])
		if later == w && c.cycle == 0 {
			c.cycle = n
		}
		there[later.Cell] = true
		c.walk = append(c.walk, later)
	}
	for cell, visited := range there {
		if visited {
			c.visited = append(c.visited, cell)
		}
	}
	return c
}

// handMazes holds all mazes of the grids with up to 7 gaps, and some of the larger ones.
func handMazes(g impl.Grid) []impl.Maze {
	mazes := someMazes(g)
	if mazeCount(g) <= 128 {
		return mazes
	}
	list := []impl.Maze{{Grid: g}, impl.FullMaze(g)}
	// The step is odd, so that each gap is open in some of the mazes and closed in others.
	for i := 0; i < len(mazes); i += 41 {
		list = append(list, mazes[i])
	}
	return append(list, perfectMazes(g)[:10]...)
}

func TestHandAsDrawn(t *testing.T) {
	for _, g := range allGrids() {
		for _, m := range handMazes(g) {
			for _, w := range allWalkers(g) {
				checkHand(t, drawnHand(m, w))
			}
		}
	}
}

// TestHandStepAsDrawn lets each walker in more mazes do one step.
func TestHandStepAsDrawn(t *testing.T) {
	for _, g := range allGrids() {
		for _, m := range append(someMazes(g), almostPerfectMazes(g)...) {
			steps := drawnSteps(m)
			for _, w := range allWalkers(g) {
				if got, want := impl.HandStep(m, w), drawnHandStep(steps, w); got != want {
					t.Errorf("HandStep(%v, %v) = %v, want %v", m, w, got, want)
				}
			}
		}
	}
}

// TestHandStepInEachSetOfWays looks at the cell in the middle of nine cells with each set of ways and each direction faced, while no other gap is open and while all others are.
func TestHandStepInEachSetOfWays(t *testing.T) {
	// The directions in which walkers go who face north, east, south and west.
	goes := map[string]string{
		"N": "NNNN", "E": "EEEE", "S": "SSSS", "W": "WWWW",
		"NE": "EEEN", "NS": "NSSN", "NW": "NNWN", "ES": "ESSS", "EW": "EEWW", "SW": "WSWW",
		"NES": "ESSN", "NEW": "EEWN", "NSW": "NSWN", "ESW": "ESWW", "NESW": "ESWN",
	}
	gaps, neighbors := [4]int{7, 3, 10, 2}, [4]int{1, 5, 7, 3}
	for _, m := range []impl.Maze{crossMaze(), impl.FullMaze(crossMaze().Grid)} {
		for _, gap := range gaps {
			m = withGap(m, gap, false)
		}
		for facing, turned := range turns("SWNE") {
			w := impl.Walker{Cell: 4, Facing: facing}
			if got, want := impl.HandStep(m, w), (impl.Walker{Cell: 4, Facing: turned}); got != want {
				t.Errorf("without ways, HandStep(%v, %v) = %v, want %v", m, w, got, want)
			}
		}
		for ways, letters := range goes {
			opened := m
			for _, direction := range turns(ways) {
				opened = withGap(opened, gaps[direction], true)
			}
			for facing, direction := range turns(letters) {
				w := impl.Walker{Cell: 4, Facing: facing}
				if got, want := impl.HandStep(opened, w), (impl.Walker{Cell: neighbors[direction], Facing: direction}); got != want {
					t.Errorf("with the ways %s, HandStep(%v, %v) = %v, want %v", ways, opened, w, got, want)
				}
			}
		}
	}
}

// TestHandWithoutPassages: where no gap is open, a walker turns to and fro.
func TestHandWithoutPassages(t *testing.T) {
	for _, g := range allGrids() {
		for _, w := range allWalkers(g) {
			turned := impl.Walker{Cell: w.Cell, Facing: (w.Facing + 2) % 4}
			checkHand(t, handCase{m: impl.Maze{Grid: g}, walk: []impl.Walker{w, turned, w, turned, w}, cycle: 2, visited: []int{w.Cell}})
		}
	}
}

// TestHandInADeadEnd: whichever direction a walker faces in a dead end, the only way is the next one, and from there the right hand leads on.
func TestHandInADeadEnd(t *testing.T) {
	for _, g := range allGrids() {
		for _, m := range perfectMazes(g) {
			steps := drawnSteps(m)
			for _, cell := range drawnDead(m).ends {
				way := slices.IndexFunc(steps[cell][:], func(next int) bool { return next >= 0 })
				want := impl.Walker{Cell: steps[cell][way], Facing: way}
				for _, facing := range allDirections {
					if got := impl.HandStep(m, impl.Walker{Cell: cell, Facing: facing}); got != want {
						t.Errorf("%v: out of the dead end %d, facing %d, the walker goes to %v, want %v", m, cell, facing, got, want)
					}
				}
			}
		}
	}
}

// passing is a passage in one direction: the cell before it and the direction.
type passing struct{ cell, direction int }

// passings lists the passages of the first steps of a walk, in order.
func passings(walk []impl.Walker, steps int) []passing {
	var list []passing
	for i := range steps {
		list = append(list, passing{walk[i].Cell, walk[i+1].Facing})
	}
	return list
}

// TestEachPassageTwice is promise 10: in a perfect maze, the right hand leads through every passage twice, once in each direction, before the walker is back. It asks every perfect maze of the grids with up to 12 gaps and samples of the larger ones, and every walker in them.
func TestEachPassageTwice(t *testing.T) {
	for _, g := range allGrids() {
		for _, m := range perfectMazes(g) {
			steps := drawnSteps(m)
			twice := 2 * (g.Wide*g.High - 1)
			for _, w := range allWalkers(g) {
				walk := impl.HandWalk(m, w, twice+1)
				if len(walk) != twice+2 {
					t.Fatalf("HandWalk(%v, %v, %d) = %v", m, w, twice+1, walk)
				}
				seen := map[passing]bool{}
				for i, p := range passings(walk, twice) {
					if walk[i+1].Cell != steps[p.cell][p.direction] {
						t.Errorf("%v: %v goes from %v to %v", m, w, walk[i], walk[i+1])
					}
					seen[p] = true
				}
				if len(seen) != twice {
					t.Errorf("%v: in %d steps, %v goes through %d passages in some direction: %v", m, twice, w, len(seen), walk)
				}
				checkBack(t, m, steps, w, walk)
			}
		}
	}
}

// checkBack expects that a walker in a perfect maze who may have come through a passage behind them is back after a walk through all passages in both directions, and that another one never is, but repeats the walk after the first step.
func checkBack(t *testing.T, m impl.Maze, steps [][4]int, w impl.Walker, walk []impl.Walker) {
	t.Helper()
	twice := len(walk) - 2
	want := 0
	switch {
	case twice == 0:
		// The only cell of its grid, in which a walker turns twice.
		want = 2
	case steps[w.Cell][(w.Facing+2)%4] >= 0:
		want = twice
		if walk[twice] != w {
			t.Errorf("%v: after %d steps, %v is %v", m, twice, w, walk[twice])
		}
	case walk[twice+1] != walk[1]:
		t.Errorf("%v: %d steps after the first one of %v, %v is %v", m, twice, w, walk[1], walk[twice+1])
	}
	if got := impl.HandCycle(m, w); got != want {
		t.Errorf("HandCycle(%v, %v) = %d, want %d", m, w, got, want)
	}
}

// TestAllWalkersReachAllInPerfectMazes: the right hand leads from each cell of a perfect maze to each other one.
func TestAllWalkersReachAllInPerfectMazes(t *testing.T) {
	for _, g := range allGrids() {
		var all []int
		for cell := range g.Wide * g.High {
			all = append(all, cell)
		}
		mazes := perfectMazes(g)
		for _, m := range mazes[:min(15, len(mazes))] {
			for _, w := range allWalkers(g) {
				if got := impl.CellsVisited(m, w); !slices.Equal(got, all) {
					t.Errorf("CellsVisited(%v, %v) = %v, want all cells", m, w, got)
				}
				for _, goal := range all {
					if !impl.HandReaches(m, w, goal) {
						t.Errorf("HandReaches(%v, %v, %d) = false, want true", m, w, goal)
					}
				}
			}
		}
	}
}

// TestHandCyclesCountLoops: in each part with a passage, a walker can go around the outside, and around the inside of each loop. Each passage belongs to these ways once in each direction.
func TestHandCyclesCountLoops(t *testing.T) {
	for _, g := range allGrids() {
		for _, m := range handMazes(g) {
			want := impl.CountLoops(m) + partsWithPassages(m)
			ways := map[impl.Walker]bool{}
			seen := map[passing]int{}
			for _, w := range allWalkers(g) {
				cycle := impl.HandCycle(m, w)
				walk := impl.HandWalk(m, w, cycle)
				if cycle == 0 || len(impl.WaysFrom(m, w.Cell)) == 0 || leastWalker(walk) != w {
					continue
				}
				ways[w] = true
				for _, p := range passings(walk, cycle) {
					seen[p]++
				}
			}
			if len(ways) != want {
				t.Errorf("%v: walkers go around on %d ways, want %d", m, len(ways), want)
			}
			if twice := 2 * impl.CountPassages(m); len(seen) != twice || twice > 0 && slices.Max(timesOf(seen)) != 1 {
				t.Errorf("%v: walkers go through %d passages in some direction, want %d, each once: %v", m, len(seen), twice, seen)
			}
		}
	}
}

// partsWithPassages counts the parts of a maze that have more than one cell.
func partsWithPassages(m impl.Maze) int {
	colors := paint(m)
	count := 0
	for cell, color := range colors {
		// The least cell of a part has its own number as color.
		if cell == color && slices.Contains(colors[cell+1:], color) {
			count++
		}
	}
	return count
}

// leastWalker stands for all walkers on one way around.
func leastWalker(walk []impl.Walker) impl.Walker {
	return slices.MinFunc(walk, func(a, b impl.Walker) int { return 4*a.Cell + a.Facing - 4*b.Cell - b.Facing })
}

func timesOf(seen map[passing]int) []int {
	var times []int
	for _, n := range seen {
		times = append(times, n)
	}
	return times
}

// TestWalkersWhoNeverComeBack: a walker with ways, but none behind them, cannot have come there by a step.
func TestWalkersWhoNeverComeBack(t *testing.T) {
	for _, g := range allGrids() {
		for _, m := range handMazes(g) {
			steps := drawnSteps(m)
			for _, w := range allWalkers(g) {
				here := steps[w.Cell]
				want := here != [4]int{-1, -1, -1, -1} && here[(w.Facing+2)%4] < 0
				if got := impl.HandCycle(m, w); (got == 0) != want {
					t.Errorf("HandCycle(%v, %v) = %d, and never being back is %v", m, w, got, want)
				}
			}
		}
	}
}

// TestHandWalkOfEachLength asks for each number of steps from 0 to 200.
func TestHandWalkOfEachLength(t *testing.T) {
	for _, m := range []impl.Maze{{Grid: impl.Grid{Wide: 1, High: 1}}, bentMaze(), everyKindMaze(), rowByRow(), impl.FullMaze(impl.Grid{Wide: 4, High: 4})} {
		for _, w := range allWalkers(m.Grid) {
			whole := drawnHand(m, w).walk
			for n := range 201 {
				if got := impl.HandWalk(m, w, n); !slices.Equal(got, whole[:n+1]) {
					t.Errorf("HandWalk(%v, %v, %d) = %v, want %v", m, w, n, got, whole[:n+1])
				}
			}
		}
	}
}

func TestHandWalkOfBadLength(t *testing.T) {
	for _, g := range allGrids() {
		for _, m := range []impl.Maze{{Grid: g}, impl.FullMaze(g)} {
			for _, n := range append([]int{-201, -200, -2, -1, 201, 202, 255, 256, 400}, extremeInts...) {
				for _, w := range allWalkers(g) {
					if got := impl.HandWalk(m, w, n); len(got) != 0 {
						t.Errorf("HandWalk(%v, %v, %d) has %d walkers, want none", m, w, n, len(got))
					}
				}
			}
		}
	}
}

func TestHandReaches(t *testing.T) {
	bend, nine := impl.Maze{Grid: impl.Grid{Wide: 2, High: 2}, Open: 13}, impl.FullMaze(impl.Grid{Wide: 3, High: 3})
	cases := []struct {
		name string
		m    impl.Maze
		from string
		goal int
		want bool
	}{
		{"one cell", impl.Maze{Grid: impl.Grid{Wide: 1, High: 1}}, "0N", 0, true},
		{"the own cell", bend, "2N", 2, true},
		{"the own cell, to which the walker does not come back", nine, "1S", 1, true},
		{"the own cell without passages", crossMaze(), "6W", 6, true},
		{"after one step", bend, "2N", 0, true},
		{"after some steps", bend, "2N", 3, true},
		{"after 30 steps less one", rowByRow(), "0W", 1, true},
		{"the farthest cell", rowByRow(), "0W", 12, true},
		{"another part", bentMaze(), "0N", 2, false},
		{"back from another part", bentMaze(), "2N", 0, false},
		{"a neighbor behind a wall", bentMaze(), "1E", 2, false},
		{"out of a ring", ringMaze(), "4N", 1, false},
		{"into a ring", ringMaze(), "1E", 4, false},
		{"a tail, from the outside of a loop", tailMaze(), "0W", 5, true},
		{"a tail, from the inside of a loop", tailMaze(), "0N", 5, false},
		{"a neighbor of a walker around one corner", nine, "4N", 1, false},
		{"the middle, from the outside", nine, "0W", 4, false},
		{"the middle, to the right", nine, "1E", 4, true},
		{"one before the first cell", nine, "4N", -1, false},
		{"one behind the last cell", nine, "4N", 9, false},
		{"minus one in a grid of one cell", impl.Maze{Grid: impl.Grid{Wide: 1, High: 1}}, "0N", -1, false},
	}
	for _, c := range cases {
		t.Run(c.name, func(t *testing.T) {
			w := walkOf(c.from)[0]
			if got := impl.HandReaches(c.m, w, c.goal); got != c.want {
				t.Errorf("HandReaches(%v, %v, %d) = %v, want %v", c.m, w, c.goal, got, c.want)
			}
		})
	}
}

// TestHandReachesNoCell asks for goals before the first and after the last cell.
func TestHandReachesNoCell(t *testing.T) {
	for _, g := range allGrids() {
		n := g.Wide * g.High
		for _, m := range []impl.Maze{{Grid: g}, impl.FullMaze(g)} {
			for _, w := range allWalkers(g) {
				for _, goal := range append([]int{-n, -g.Wide, -2, -1, n, n + 1, n + g.Wide, 100}, extremeInts...) {
					if impl.HandReaches(m, w, goal) {
						t.Errorf("HandReaches(%v, %v, %d) = true, want false", m, w, goal)
					}
				}
			}
		}
	}
}

func TestWalkerOk(t *testing.T) {
	for _, g := range allGrids() {
		for _, m := range []impl.Maze{{Grid: g}, drawnKruskal(g, shuffledOrder(g, 1)), impl.FullMaze(g)} {
			for _, w := range allWalkers(g) {
				if !impl.WalkerOk(m, w) {
					t.Errorf("WalkerOk(%v, %v) = false, want true", m, w)
				}
			}
		}
	}
}

// checkNoWalker expects the fixed result of each function for a walker who is not valid.
func checkNoWalker(t *testing.T, m impl.Maze, w impl.Walker) {
	t.Helper()
	if impl.WalkerOk(m, w) {
		t.Errorf("WalkerOk(%v, %v) = true, want false", m, w)
	}
	if got := impl.HandStep(m, w); got != w {
		t.Errorf("HandStep(%v, %v) = %v, want the walker unchanged", m, w, got)
	}
	for _, n := range []int{-1, 0, 1, 200, 201} {
		if got := impl.HandWalk(m, w, n); len(got) != 0 {
			t.Errorf("HandWalk(%v, %v, %d) = %v, want none", m, w, n, got)
		}
	}
	if got := impl.HandCycle(m, w); got != 0 {
		t.Errorf("HandCycle(%v, %v) = %d, want 0", m, w, got)
	}
	for _, goal := range []int{-1, 0, 1, w.Cell} {
		if impl.HandReaches(m, w, goal) {
			t.Errorf("HandReaches(%v, %v, %d) = true, want false", m, w, goal)
		}
	}
	if got := impl.CellsVisited(m, w); len(got) != 0 {
		t.Errorf("CellsVisited(%v, %v) = %v, want none", m, w, got)
	}
}

func TestWalkerInBadMazes(t *testing.T) {
	for _, m := range badMazes() {
		for cell := -1; cell <= 16; cell++ {
			for facing := -1; facing <= 4; facing++ {
				checkNoWalker(t, m, impl.Walker{Cell: cell, Facing: facing})
			}
		}
	}
	checkNoWalker(t, impl.Maze{}, impl.Walker{})
}

// TestWalkerInNoCell asks for cells before the first and after the last one.
func TestWalkerInNoCell(t *testing.T) {
	for _, g := range allGrids() {
		n := g.Wide * g.High
		for _, m := range []impl.Maze{{Grid: g}, impl.FullMaze(g)} {
			for _, cell := range append([]int{-n, -g.Wide, -2, -1, n, n + 1, n + g.Wide, 100}, extremeInts...) {
				for facing := -1; facing <= 4; facing++ {
					checkNoWalker(t, m, impl.Walker{Cell: cell, Facing: facing})
				}
			}
		}
	}
}

// TestWalkerFacingNoDirection asks for directions before the first and after the last one.
func TestWalkerFacingNoDirection(t *testing.T) {
	for _, g := range allGrids() {
		for _, m := range []impl.Maze{{Grid: g}, impl.FullMaze(g)} {
			for cell := range g.Wide * g.High {
				for _, facing := range append([]int{-8, -5, -4, -3, -2, -1, 4, 5, 6, 7, 8}, extremeInts...) {
					checkNoWalker(t, m, impl.Walker{Cell: cell, Facing: facing})
				}
			}
		}
	}
}

func TestHandIsNewMemory(t *testing.T) {
	m := everyKindMaze()
	w := impl.Walker{Cell: 4}
	walk, cells := impl.HandWalk(m, w, 200), impl.CellsVisited(m, w)
	for i := range walk {
		walk[i] = impl.Walker{Cell: 9, Facing: 9}
	}
	for i := range cells {
		cells[i] = 9
	}
	checkHand(t, drawnHand(m, w))
}
