package tests

import (
	"math"
	"math/rand/v2"
	"slices"
	"strings"
	"testing"

	"loop.example/g00990/impl"
)

// eraseCases has lists and what is left of them without their loops.
var eraseCases = []struct {
	name       string
	list, want []int
}{
	{"no numbers", nil, nil},
	{"no numbers, but a list", []int{}, nil},
	{"one number", []int{7}, []int{7}},
	{"two numbers", []int{7, 3}, []int{7, 3}},
	{"no number twice", []int{3, 1, 4, 0, 5, 9, 2, 6}, []int{3, 1, 4, 0, 5, 9, 2, 6}},
	{"no number twice, ascending", []int{0, 1, 2, 3, 4}, []int{0, 1, 2, 3, 4}},
	{"no number twice, descending", []int{4, 3, 2, 1, 0}, []int{4, 3, 2, 1, 0}},
	{"a number twice in a row", []int{4, 4}, []int{4}},
	{"one number many times in a row", alike(9, 5), []int{5}},
	{"many times in a row at the beginning", []int{1, 1, 1, 2, 3}, []int{1, 2, 3}},
	{"many times in a row in the middle", []int{1, 2, 2, 2, 2, 3}, []int{1, 2, 3}},
	{"many times in a row at the end", []int{1, 2, 3, 3, 3}, []int{1, 2, 3}},
	{"several numbers, each many times in a row", []int{1, 1, 2, 2, 2, 3, 3}, []int{1, 2, 3}},
	{"back to the beginning at once", []int{1, 2, 1}, []int{1}},
	{"back to the beginning at the end", []int{1, 2, 3, 4, 1}, []int{1}},
	{"back to the beginning step by step", []int{1, 2, 3, 4, 3, 2, 1}, []int{1}},
	{"back to the beginning in the middle", []int{1, 2, 3, 1, 4, 5}, []int{1, 4, 5}},
	{"back to the beginning in the middle and at the end", []int{1, 2, 3, 1, 4, 5, 1}, []int{1}},
	{"back to the beginning again and again", []int{1, 2, 1, 3, 1, 2, 3, 1, 4}, []int{1, 4}},
	{"back to the beginning and to stay", []int{1, 2, 3, 1, 1, 1}, []int{1}},
	{"a loop in the middle", []int{1, 2, 3, 2, 4}, []int{1, 2, 4}},
	{"a longer loop in the middle", []int{1, 2, 3, 4, 5, 6, 2, 7, 8}, []int{1, 2, 7, 8}},
	{"a loop at the end", []int{1, 2, 3, 4, 5, 3}, []int{1, 2, 3}},
	{"a loop back to the last but one", []int{1, 2, 3, 4, 3}, []int{1, 2, 3}},
	{"a loop within a loop", []int{1, 2, 3, 4, 3, 2, 5}, []int{1, 2, 5}},
	{"a longer loop within a loop", []int{1, 2, 3, 4, 5, 4, 6, 2, 7}, []int{1, 2, 7}},
	{"a loop within a loop within a loop", []int{1, 2, 3, 4, 5, 4, 6, 3, 7, 2, 8}, []int{1, 2, 8}},
	{"two loops, one behind the other", []int{1, 2, 3, 2, 4, 5, 6, 4, 7}, []int{1, 2, 4, 7}},
	{"two loops within a loop", []int{0, 1, 2, 1, 3, 4, 3, 0, 5}, []int{0, 5}},
	{"two loops from one number", []int{1, 2, 3, 2, 4, 2, 5}, []int{1, 2, 5}},
	{"a loop that is cut away with an earlier one's end", []int{0, 1, 2, 3, 1, 4, 0, 5}, []int{0, 5}},
	{"a loop that is cut away with the ends of two earlier ones", []int{9, 0, 1, 2, 1, 3, 4, 3, 5, 0, 6}, []int{9, 0, 6}},
	{"a loop that begins where an earlier one ends", []int{1, 2, 3, 4, 2, 3, 5, 3, 6}, []int{1, 2, 3, 6}},
	{"another list from the last number on", []int{1, 2, 3, 1, 4, 3, 5}, []int{1, 4, 3, 5}},
	{"a number that was removed comes again", []int{1, 2, 3, 1, 3}, []int{1, 3}},
	{"removed and again at its place", []int{1, 2, 3, 1, 2, 4}, []int{1, 2, 4}},
	{"removed and again at a later place", []int{1, 2, 3, 1, 4, 2}, []int{1, 4, 2}},
	{"removed and again at an earlier place", []int{1, 2, 3, 4, 1, 4, 5}, []int{1, 4, 5}},
	{"removed and again, again and again", []int{1, 2, 1, 2, 1, 2, 3}, []int{1, 2, 3}},
	{"all that were removed again in another order", []int{1, 2, 3, 4, 1, 4, 3, 2}, []int{1, 4, 3, 2}},
	{"removed and again, and a loop back to it", []int{1, 2, 3, 1, 4, 3, 5, 3, 6}, []int{1, 4, 3, 6}},
	{"removed and again, and a loop over it", []int{1, 2, 3, 1, 4, 3, 5, 4, 6}, []int{1, 4, 6}},
	{"removed and again behind a number that stays", []int{1, 2, 3, 4, 2, 5, 4, 3, 6}, []int{1, 2, 5, 4, 3, 6}},
	{"zeros", []int{0, 0, 0}, []int{0}},
	{"back to zero", []int{0, 1, 0, 2}, []int{0, 2}},
	{"negative numbers", []int{-1, -2, -3, -2, -4}, []int{-1, -2, -4}},
	{"a number and its negative", []int{5, -5, 4, -4, -5, 3}, []int{5, -5, 3}},
	{"around zero", []int{-1, 0, 1, 0, -1}, []int{-1}},
	{"the least and the greatest integer", []int{math.MinInt, math.MaxInt}, []int{math.MinInt, math.MaxInt}},
	{"back to the least integer", []int{math.MinInt, math.MaxInt, math.MinInt, 0}, []int{math.MinInt, 0}},
	{"back to the greatest integer", []int{0, math.MaxInt, -1, math.MinInt, math.MaxInt}, []int{0, math.MaxInt}},
	{"numbers with the same last bits", []int{1, 1<<32 + 1, 1<<62 + 1, 257, 65537}, []int{1, 1<<32 + 1, 1<<62 + 1, 257, 65537}},
	{"far apart and alike", []int{-1 << 40, 1 << 40, -1 << 40}, []int{-1 << 40}},
}

func TestEraseCases(t *testing.T) {
	for _, c := range eraseCases {
		t.Run(c.name, func(t *testing.T) {
			checkErase(t, c.list, c.want)
			checkNoLoops(t, c.list)
			if got := lastPlaces(c.list); !slices.Equal(got, c.want) {
				t.Errorf("by the last places, %v is left of %v, want %v", got, c.list, c.want)
			}
		})
	}
}

// checkErase holds the functions for lists against what is left of one.
func checkErase(t *testing.T, list, want []int) {
	t.Helper()
	if got := impl.EraseLoops(list); !slices.Equal(got, want) {
		t.Errorf("EraseLoops(%v) = %v, want %v", list, got, want)
	}
	if got, want := impl.CountErased(list), len(list)-len(want); got != want {
		t.Errorf("CountErased(%v) = %d, want %d", list, got, want)
	}
	// Only where nothing is removed, no number is there already.
	if got, want := impl.IsSimple(list), len(want) == len(list); got != want {
		t.Errorf("IsSimple(%v) = %v, want %v", list, got, want)
	}
}

// lastPlaces finds what is left of a list from the end of each loop: the list is left for good behind the last place of its first number, and then behind that of the number which is the first one there.
func lastPlaces(list []int) []int {
	left := []int{}
	for len(list) > 0 {
		number, last := list[0], 0
		for place := range list {
			if list[place] == number {
				last = place
			}
		}
		left = append(left, number)
		list = list[last+1:]
	}
	return left
}

// checkNoLoops is promise 14 for a list: no number occurs twice in what is left, which leads from the first number to the last one in steps that the list has.
func checkNoLoops(t *testing.T, list []int) {
	t.Helper()
	left := impl.EraseLoops(list)
	seen := map[int]bool{}
	for _, number := range left {
		if seen[number] {
			t.Errorf("EraseLoops(%v) = %v, which has %d twice", list, left, number)
		}
		seen[number] = true
	}
	if !impl.IsSimple(left) {
		t.Errorf("IsSimple(%v) = false, but it is EraseLoops(%v)", left, list)
	}
	if got, want := impl.CountErased(list), len(list)-len(left); got != want || got < 0 {
		t.Errorf("CountErased(%v) = %d, want %d", list, got, want)
	}
	if got := impl.EraseLoops(left); !slices.Equal(got, left) || impl.CountErased(left) != 0 {
		t.Errorf("EraseLoops(%v) = %v, with %d erased, want no change", left, got, impl.CountErased(left))
	}
	if len(list) == 0 || len(left) == 0 {
		if len(list) != len(left) {
			t.Errorf("EraseLoops(%v) = %v", list, left)
		}
		return
	}
	if left[0] != list[0] || left[len(left)-1] != list[len(list)-1] {
		t.Errorf("EraseLoops(%v) = %v, want the same first and last number", list, left)
	}
	// Each step of what is left is found in the list behind the one before it.
	place := 0
	for i := range len(left) - 1 {
		for place+1 < len(list) && (list[place] != left[i] || list[place+1] != left[i+1]) {
			place++
		}
		if place++; place >= len(list) {
			t.Errorf("EraseLoops(%v) = %v, but the list has no step from %d to %d there", list, left, left[i], left[i+1])
		}
	}
}

// everyList checks each list of up to n of the numbers.
func everyList(n int, numbers []int, check func(list []int)) {
	var longer func(list []int)
	longer = func(list []int) {
		check(slices.Clone(list))
		if len(list) == n {
			return
		}
		for _, number := range numbers {
			longer(append(list, number))
		}
	}
	longer(nil)
}

func TestEveryShortList(t *testing.T) {
	check := func(list []int) {
		checkErase(t, list, lastPlaces(list))
		checkNoLoops(t, list)
	}
	everyList(10, []int{0, 1}, check)
	everyList(8, []int{1, 2, 3}, check)
	everyList(6, []int{0, -1, 1, math.MinInt, math.MaxInt}, check)
}

// manyLists holds lists of up to 80 numbers, from a few different ones to many.
func manyLists() [][]int {
	r := rand.New(rand.NewPCG(14, 1))
	var list [][]int
	for kinds := 1; kinds <= 60; kinds++ {
		numbers := slices.Clone(extremeInts)
		for len(numbers) < kinds {
			numbers = append(numbers, r.IntN(200)-100)
		}
		r.Shuffle(len(numbers), func(i, j int) { numbers[i], numbers[j] = numbers[j], numbers[i] })
		for range 30 {
			walk := make([]int, r.IntN(81))
			for i := range walk {
				walk[i] = numbers[r.IntN(kinds)]
			}
			list = append(list, walk)
		}
	}
	return list
}

func TestManyLists(t *testing.T) {
	for _, list := range manyLists() {
		checkErase(t, list, lastPlaces(list))
		checkNoLoops(t, list)
	}
}

// TestListsThatReturn: what a list had before it returned to its beginning for the last time has no influence.
func TestListsThatReturn(t *testing.T) {
	lists := manyLists()
	for i, list := range lists {
		if len(list) == 0 {
			continue
		}
		first := list[0]
		checkErase(t, append(slices.Clone(list), first), []int{first})
		// All that list had is removed, though the other list may have it again.
		other := lists[(i+1)%len(lists)]
		whole := append(append(slices.Clone(list), first), other...)
		want := lastPlaces(append([]int{first}, other...))
		checkErase(t, whole, want)
		checkNoLoops(t, whole)
	}
}

// TestOneNumberTwice puts one number at two places of a list that has no other one twice.
func TestOneNumberTwice(t *testing.T) {
	const length = 20
	for second := range length {
		for first := range second {
			list := []int{}
			for i := range length {
				list = append(list, 1000-37*i)
			}
			if !impl.IsSimple(list) {
				t.Errorf("IsSimple(%v) = false, want true", list)
			}
			list[second] = list[first]
			want := slices.Concat(list[:first+1], list[second+1:])
			checkErase(t, list, want)
		}
	}
}

// countingUp holds the numbers from 0 to n-1.
func countingUp(n int) []int {
	list := make([]int, n)
	for i := range list {
		list[i] = i
	}
	return list
}

func TestLongLists(t *testing.T) {
	const n = 100000
	up := countingUp(n)
	down := slices.Clone(up)
	slices.Reverse(down)
	toAndFro := slices.Repeat([]int{3, -3}, n/2)
	saw := []int{}
	for i := range 400 {
		saw = append(saw, up[:i]...)
	}
	cases := []struct {
		name       string
		list, want []int
	}{
		{"no number twice", up, up},
		{"no number twice, descending", down, down},
		{"one number", alike(n, math.MinInt), []int{math.MinInt}},
		{"to and fro", toAndFro, []int{3, -3}},
		{"to and fro, back at the beginning", toAndFro[:n-1], []int{3}},
		{"there and back", slices.Concat(up, down), []int{0}},
		{"there and nearly back", slices.Concat(up, down[:n-1]), []int{0, 1}},
		{"there and the last one again", append(slices.Clone(up), n-1), up},
		{"there and back at once", append(slices.Clone(up), 0), []int{0}},
		{"there and there again", slices.Concat(up, up), up},
		{"there, back and there again", slices.Concat(up, down, up), up},
		{"back to the beginning each time a number later", saw, up[:399]},
	}
	for _, c := range cases {
		t.Run(c.name, func(t *testing.T) {
			got := impl.EraseLoops(c.list)
			if !slices.Equal(got, c.want) {
				t.Errorf("%d of %d numbers are left, want %d", len(got), len(c.list), len(c.want))
			}
			if got, want := impl.CountErased(c.list), len(c.list)-len(c.want); got != want {
				t.Errorf("CountErased = %d, want %d", got, want)
			}
			if got, want := impl.IsSimple(c.list), len(c.want) == len(c.list); got != want {
				t.Errorf("IsSimple = %v, want %v", got, want)
			}
		})
	}
}

// eraseWayCases has ways, and the ways that are left of them.
var eraseWayCases = []struct {
	name      string
	m         impl.Maze
	cell      int
	way, want string
}{
	{"one cell", impl.FullMaze(impl.Grid{Wide: 1, High: 1}), 0, "", ""},
	{"the empty way", rowByRow(), 9, "", ""},
	{"the empty way without passages", impl.Maze{Grid: impl.Grid{Wide: 4, High: 4}}, 15, "", ""},
	{"one step", impl.FullMaze(impl.Grid{Wide: 2, High: 1}), 0, "E", "E"},
	{"there and back", impl.FullMaze(impl.Grid{Wide: 2, High: 1}), 0, "EW", ""},
	{"there, back and there", impl.FullMaze(impl.Grid{Wide: 2, High: 1}), 1, "WEW", "W"},
	{"down and up", impl.FullMaze(impl.Grid{Wide: 1, High: 2}), 0, "SN", ""},
	{"down, up and down", impl.FullMaze(impl.Grid{Wide: 1, High: 2}), 0, "SNS", "S"},
	{"to and fro in a row", impl.FullMaze(impl.Grid{Wide: 4, High: 1}), 1, "EEWWWEEE", "EE"},
	{"to and fro in a column", impl.FullMaze(impl.Grid{Wide: 1, High: 4}), 3, "NNSNNSS", "N"},
	{"a step back at once, and on another way", impl.FullMaze(impl.Grid{Wide: 2, High: 2}), 0, "EWS", "S"},
	{"around a loop", impl.FullMaze(impl.Grid{Wide: 2, High: 2}), 0, "ESWN", ""},
	{"around a loop the other way", impl.FullMaze(impl.Grid{Wide: 2, High: 2}), 0, "SENW", ""},
	{"around a loop and a step on", impl.FullMaze(impl.Grid{Wide: 2, High: 2}), 0, "ESWNE", "E"},
	{"around a loop and a step the other way", impl.FullMaze(impl.Grid{Wide: 2, High: 2}), 0, "ESWNS", "S"},
	{"around a loop twice", impl.FullMaze(impl.Grid{Wide: 2, High: 2}), 3, "NWSENWSE", ""},
	{"nearly around a loop, no shorter way is taken", impl.FullMaze(impl.Grid{Wide: 2, High: 2}), 0, "ESW", "ESW"},
	{"around a wall and back", impl.Maze{Grid: impl.Grid{Wide: 2, High: 2}, Open: 13}, 2, "NESNWS", ""},
	{"around a wall, half of the way back", impl.Maze{Grid: impl.Grid{Wide: 2, High: 2}, Open: 13}, 2, "NESNW", "N"},
	{"in a part", bentMaze(), 1, "WSNEW", "W"},
	{"in another part", bentMaze(), 2, "SWEWEN", ""},
	{"through a cross", crossMaze(), 1, "SEWSNW", "SW"},
	{"through a cross to the beginning", crossMaze(), 1, "SEWSNWEN", ""},
	{"around a ring", ringMaze(), 3, "SEENNWWS", ""},
	{"around a ring and on", ringMaze(), 3, "SEENNWWSSE", "SE"},
	{"around a ring and back", ringMaze(), 3, "SEENNWWSNE", "NE"},
	{"around most of a ring", ringMaze(), 3, "SEENNWW", "SEENNWW"},
	{"around most of a ring, to and fro", ringMaze(), 3, "SEENNWEWW", "SEENNWW"},
	{"a loop and then its tail", tailMaze(), 3, "ENWSENES", "ENES"},
	{"from the tail around the loop", tailMaze(), 5, "NWSWNE", "NW"},
	{"from the tail around the loop and back", tailMaze(), 5, "NWSWNEES", ""},
	{"the loops in the west and in the east, one behind the other", impl.FullMaze(impl.Grid{Wide: 4, High: 2}), 0, "ESWNEEESWN", "EE"},
	{"a loop within a loop", impl.FullMaze(impl.Grid{Wide: 4, High: 3}), 0, "EESENWWWSS", "SS"},
	{"the end of a loop cut away by another one", impl.FullMaze(impl.Grid{Wide: 3, High: 3}), 0, "EESWNWS", "S"},
	{"another way than from the other end", impl.FullMaze(impl.Grid{Wide: 3, High: 2}), 0, "EESWWNSEE", "SEE"},
	{"a cell that was removed comes again", impl.FullMaze(impl.Grid{Wide: 3, High: 2}), 0, "ESWNSENE", "SENE"},
	{"through all cells", rowByRow(), 0, "EEESWWWSEEESWWW", "EEESWWWSEEESWWW"},
	{"through all cells and back to the middle", rowByRow(), 0, "EEESWWWSEEESWWWEEENWWWNEE", "EEESW"},
	{"through all cells and back", rowByRow(), 0, "EEESWWWSEEESWWWEEENWWWNEEENWWW", ""},
	{"through all cells and around", impl.FullMaze(impl.Grid{Wide: 4, High: 4}), 0, "EEESWWSEESWWWNNN", ""},
	{"into each row of a comb", combMaze(), 3, "WWWSEEEWWWSEEEWWWSEEE", "WWWSSSEEE"},
}

func TestEraseWayCases(t *testing.T) {
	for _, c := range eraseWayCases {
		t.Run(c.name, func(t *testing.T) {
			checkEraseWay(t, c.m, c.cell, turns(c.way), turns(c.want))
			checkWayWithoutLoops(t, c.m, c.cell, turns(c.way))
			if got := leftOfWay(c.m, c.cell, turns(c.way)); !slices.Equal(got, turns(c.want)) {
				t.Errorf("by the last places, %v is left of %q, want %q", got, c.way, c.want)
			}
		})
	}
}

// checkEraseWay expects that a way can be walked and what is left of it.
func checkEraseWay(t *testing.T, m impl.Maze, cell int, way, want []int) {
	t.Helper()
	if got, ok := impl.EraseWay(m, cell, way); !ok || !slices.Equal(got, want) {
		t.Errorf("EraseWay(%v, %d, %v) = %v, %v, want %v, true", m, cell, way, got, ok, want)
	}
}

// checkNoWay expects that a way cannot be walked, so that nothing is left of it.
func checkNoWay(t *testing.T, m impl.Maze, cell int, way []int) {
	t.Helper()
	if got, ok := impl.EraseWay(m, cell, way); ok || got != nil {
		t.Errorf("EraseWay(%v, %d, %v) = %v, %v, want nil, false", m, cell, way, got, ok)
	}
}

// leftOfWay finds what is left of a way from the last places of its cells.
func leftOfWay(m impl.Maze, cell int, way []int) []int {
	steps := drawnSteps(m)
	left := []int{}
	for i, next := range lastPlaces(drawnWalk(m, cell, way)) {
		if i > 0 {
			left = append(left, slices.Index(steps[cell][:], next))
		}
		cell = next
	}
	return left
}

// checkWayWithoutLoops is promise 14 for a walk: what is left of its way passes the cells that are left of its cells, none of them twice, and arrives where it arrives.
func checkWayWithoutLoops(t *testing.T, m impl.Maze, cell int, way []int) {
	t.Helper()
	left, ok := impl.EraseWay(m, cell, way)
	if !ok {
		t.Errorf("EraseWay(%v, %d, %v) = %v, false, want true", m, cell, way, left)
		return
	}
	want := impl.EraseLoops(impl.CellsOn(m, cell, way))
	cells := impl.CellsOn(m, cell, left)
	if !slices.Equal(cells, want) {
		t.Errorf("EraseWay(%v, %d, %v) = %v, which passes the cells %v, want %v", m, cell, way, left, cells, want)
	}
	if !impl.IsSimple(cells) || len(cells) > m.Grid.Wide*m.Grid.High {
		t.Errorf("EraseWay(%v, %d, %v) = %v, which passes the cells %v", m, cell, way, left, cells)
	}
	end, arrives := impl.WalkWay(m, cell, way)
	if there, ok := impl.WalkWay(m, cell, left); !arrives || !ok || there != end {
		t.Errorf("%v from %d leads to %d, %v, and %v without loops to %d, %v", way, cell, end, arrives, left, there, ok)
	}
	if again, ok := impl.EraseWay(m, cell, left); !ok || !slices.Equal(again, left) {
		t.Errorf("EraseWay(%v, %d, %v) = %v, %v, want no change", m, cell, left, again, ok)
	}
	checkNoLoops(t, impl.CellsOn(m, cell, way))
}

// randomWay takes a number of steps through a maze, none where there are no passages.
func randomWay(r *rand.Rand, m impl.Maze, cell, length int) []int {
	steps := drawnSteps(m)
	way := []int{}
	if slices.Max(steps[cell][:]) < 0 {
		return way
	}
	for len(way) < length {
		direction := r.IntN(4)
		if next := steps[cell][direction]; next >= 0 {
			way = append(way, direction)
			cell = next
		}
	}
	return way
}

// eraseMazes holds some perfect mazes of a grid, mazes with a passage more or less, and other ones, among them those with all gaps open and with none.
func eraseMazes(g impl.Grid) []impl.Maze {
	list := []impl.Maze{{Grid: g}, impl.FullMaze(g)}
	for k := range 5 {
		m := drawnKruskal(g, shuffledOrder(g, k))
		list = append(list, m)
		for gap := range gapsInOrder(g) {
			list = append(list, withGap(m, gap, !isDrawnOpen(m, gap)))
		}
	}
	others := someMazes(g)
	for i := 0; i < len(others); i += len(others)/50 + 1 {
		list = append(list, others[i])
	}
	return list
}

// checkWalks checks ways of several lengths from each cell of mazes of each grid.
func checkWalks(lengths []int, check func(r *rand.Rand, m impl.Maze, cell int, way []int)) {
	r := rand.New(rand.NewPCG(14, 2))
	for _, g := range allGrids() {
		for _, m := range eraseMazes(g) {
			for cell := range g.Wide * g.High {
				for _, length := range lengths {
					check(r, m, cell, randomWay(r, m, cell, length))
				}
			}
		}
	}
}

func TestWalksInMazes(t *testing.T) {
	checkWalks([]int{0, 1, 2, 3, 5, 8, 20, 60}, func(_ *rand.Rand, m impl.Maze, cell int, way []int) {
		checkEraseWay(t, m, cell, way, leftOfWay(m, cell, way))
		checkWayWithoutLoops(t, m, cell, way)
	})
}

// TestWalksThatReturn: of a way that returns to the cell where it begins, no step is left, and only the further steps count if it goes on.
func TestWalksThatReturn(t *testing.T) {
	checkWalks([]int{1, 4, 30}, func(r *rand.Rand, m impl.Maze, cell int, way []int) {
		checkEraseWay(t, m, cell, slices.Concat(way, impl.ReverseWay(way)), nil)
		end, _ := impl.WalkWay(m, cell, way)
		home, _ := impl.WayBetween(m, end, cell)
		round := slices.Concat(way, home)
		checkEraseWay(t, m, cell, round, nil)
		if got, want := impl.EraseLoops(impl.CellsOn(m, cell, round)), []int{cell}; !slices.Equal(got, want) {
			t.Errorf("%v: of the cells on %v from %d, %v are left, want %v", m, round, cell, got, want)
		}
		further := randomWay(r, m, cell, 12)
		checkEraseWay(t, m, cell, slices.Concat(round, further), leftOfWay(m, cell, further))
		checkWayWithoutLoops(t, m, cell, slices.Concat(round, further))
	})
}

// TestWalksInPerfectMazes: there is only one way without loops between two cells, so each walk between them leaves that one.
func TestWalksInPerfectMazes(t *testing.T) {
	r := rand.New(rand.NewPCG(14, 3))
	for _, g := range allGrids() {
		for k := range 20 {
			m := drawnKruskal(g, shuffledOrder(g, k))
			for cell := range g.Wide * g.High {
				ways := drawnWays(m, cell)
				for _, length := range []int{1, 6, 25, 100} {
					way := randomWay(r, m, cell, length)
					end, _ := impl.WalkWay(m, cell, way)
					checkEraseWay(t, m, cell, way, ways[end])
				}
			}
		}
	}
}

// TestShortWalksAsDrawn has all ways of up to four numbers, of which many lead against walls, out of the grid or are no ways.
func TestShortWalksAsDrawn(t *testing.T) {
	mazes := append(someMazes(impl.Grid{Wide: 2, High: 2}), someMazes(impl.Grid{Wide: 1, High: 3})...)
	mazes = append(mazes, bentMaze(), crossMaze(), ringMaze(), tailMaze(), impl.FullMaze(impl.Grid{Wide: 3, High: 2}))
	ways := shortWays()
	for _, m := range mazes {
		for cell := range m.Grid.Wide * m.Grid.High {
			for _, way := range ways {
				if drawnWalk(m, cell, way) == nil {
					checkNoWay(t, m, cell, way)
				} else {
					checkEraseWay(t, m, cell, way, leftOfWay(m, cell, way))
				}
			}
		}
	}
}

// TestEraseWayLimit: of 400 directions something may be left, while 401 cannot be walked, whatever would be left.
func TestEraseWayLimit(t *testing.T) {
	r := rand.New(rand.NewPCG(14, 4))
	for _, m := range []impl.Maze{impl.FullMaze(impl.Grid{Wide: 2, High: 1}), bentMaze(), ringMaze(), rowByRow(), combMaze(), impl.FullMaze(impl.Grid{Wide: 4, High: 4})} {
		way := randomWay(r, m, 0, 1000)
		for _, n := range []int{398, 399, 400} {
			checkEraseWay(t, m, 0, way[:n], leftOfWay(m, 0, way[:n]))
			checkWayWithoutLoops(t, m, 0, way[:n])
		}
		for _, n := range []int{401, 402, 500, 1000} {
			checkNoWay(t, m, 0, way[:n])
		}
	}
	round := turns(strings.Repeat("EESSWWNN", 50))
	checkEraseWay(t, ringMaze(), 0, round, nil)
	checkEraseWay(t, ringMaze(), 0, round[:399], turns("EESSWWN"))
	checkNoWay(t, ringMaze(), 0, append(slices.Clone(round), impl.East))
}

// TestNoWayToErase puts a step and the one back at each place of ways that can be walked: through a passage or a wall, out of the grid, or with a number that is no direction.
func TestNoWayToErase(t *testing.T) {
	numbers := append([]int{impl.North, impl.East, impl.South, impl.West, -8, -5, -4, -3, -2, -1, 4, 5, 6, 7, 8, 256, 257}, extremeInts...)
	for _, c := range eraseWayCases {
		way := turns(c.way)
		for place := range len(way) + 1 {
			for _, number := range numbers {
				// The opposite of a direction is the other one with the same last bit. There and back would be erased, but a wall in between counts.
				spoiled := slices.Concat(way[:place], []int{number, number ^ 2}, way[place:])
				if drawnWalk(c.m, c.cell, spoiled) == nil {
					checkNoWay(t, c.m, c.cell, spoiled)
				} else {
					checkEraseWay(t, c.m, c.cell, spoiled, leftOfWay(c.m, c.cell, spoiled))
				}
			}
		}
	}
}

// TestEraseWayOfNoCell asks for cells before the first and after the last one, with ways that would stay there or lead into the maze.
func TestEraseWayOfNoCell(t *testing.T) {
	for _, g := range allGrids() {
		n := g.Wide * g.High
		for _, m := range []impl.Maze{{Grid: g}, drawnKruskal(g, shuffledOrder(g, 1)), impl.FullMaze(g)} {
			for _, cell := range append([]int{-n, -g.Wide, -2, -1, n, n + 1, n + g.Wide, 100}, extremeInts...) {
				for _, text := range []string{"", "N", "E", "S", "W", "NS", "EW", "SN", "WE"} {
					checkNoWay(t, m, cell, turns(text))
				}
			}
		}
	}
}

func TestEraseWayInBadMazes(t *testing.T) {
	for _, m := range badMazes() {
		for cell := -1; cell <= 16; cell++ {
			for _, text := range []string{"", "N", "E", "S", "W", "NS", "EW", "SN", "WE"} {
				checkNoWay(t, m, cell, turns(text))
			}
		}
	}
}

// withSpare returns a copy of a list that has memory to spare, and the list together with that memory.
func withSpare(list []int) (same, whole []int) {
	whole = append(slices.Clone(list), 71, 72, 73)
	return whole[:len(list)], whole
}

// overwrite changes a result and all the memory behind it.
func overwrite(result []int) {
	result = result[:cap(result)]
	for i := range result {
		result[i] = 99
	}
}

// TestListIsLeftAlone: no function changes a list or the memory behind it, and no result has any of that memory.
func TestListIsLeftAlone(t *testing.T) {
	lists := manyLists()
	for _, c := range eraseCases {
		lists = append(lists, c.list)
	}
	for _, original := range lists {
		list, whole := withSpare(original)
		before := slices.Clone(whole)
		left := impl.EraseLoops(list)
		want := slices.Clone(left)
		impl.IsSimple(list)
		impl.CountErased(list)
		if !slices.Equal(whole, before) {
			t.Errorf("the list %v became %v", before, whole)
		}
		overwrite(list)
		if !slices.Equal(left, want) {
			t.Errorf("EraseLoops(%v) changed with its argument to %v", original, left)
		}
		copy(whole, before)
		overwrite(left)
		if !slices.Equal(whole, before) {
			t.Errorf("the list %v became %v with its result", before, whole)
		}
		if got := impl.EraseLoops(list); !slices.Equal(got, want) {
			t.Errorf("EraseLoops(%v) = %v after its result was changed, want %v", original, got, want)
		}
	}
}

// TestWayToEraseIsLeftAlone is the same for ways, also for those that cannot be walked.
func TestWayToEraseIsLeftAlone(t *testing.T) {
	for _, c := range eraseWayCases {
		for _, tail := range []string{"", "N", "E", "S", "W"} {
			way, whole := withSpare(turns(c.way + tail))
			before := slices.Clone(whole)
			left, ok := impl.EraseWay(c.m, c.cell, way)
			want := slices.Clone(left)
			if !slices.Equal(whole, before) {
				t.Errorf("the way %v became %v", before, whole)
			}
			overwrite(way)
			if !slices.Equal(left, want) {
				t.Errorf("EraseWay(%v, %d, %q) changed with its argument to %v", c.m, c.cell, c.way+tail, left)
			}
			copy(whole, before)
			overwrite(left)
			if !slices.Equal(whole, before) {
				t.Errorf("the way %v became %v with its result", before, whole)
			}
			if got, again := impl.EraseWay(c.m, c.cell, way); again != ok || !slices.Equal(got, want) {
				t.Errorf("EraseWay(%v, %d, %q) = %v, %v after its result was changed, want %v, %v", c.m, c.cell, c.way+tail, got, again, want, ok)
			}
		}
	}
}
