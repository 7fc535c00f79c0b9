package tests

import (
	"math/big"
	"regexp"
	"slices"
	"strconv"
	"strings"
	"testing"

	"loop.example/g00990/impl"
)

// drawCase is a maze, its drawing as one string with "/" between the lines, and its text.
type drawCase struct {
	name    string
	m       impl.Maze
	drawing string
	text    string
}

func drawCases() []drawCase {
	one, row, column, small := impl.Grid{Wide: 1, High: 1}, impl.Grid{Wide: 4, High: 1}, impl.Grid{Wide: 1, High: 4}, impl.Grid{Wide: 2, High: 2}
	wide, high, large := impl.Grid{Wide: 3, High: 2}, impl.Grid{Wide: 2, High: 3}, impl.Grid{Wide: 4, High: 4}
	return []drawCase{
		{"one cell", impl.Maze{Grid: one}, "###/# #/###", "1 1 0"},
		{"two cells and a wall", impl.Maze{Grid: impl.Grid{Wide: 2, High: 1}}, "#####/# # #/#####", "2 1 0"},
		{"two cells and a passage", impl.Maze{Grid: impl.Grid{Wide: 2, High: 1}, Open: 1}, "#####/#   #/#####", "2 1 1"},
		{"two cells and a wall to the south", impl.Maze{Grid: impl.Grid{Wide: 1, High: 2}}, "###/# #/###/# #/###", "1 2 0"},
		{"two cells and a passage to the south", impl.Maze{Grid: impl.Grid{Wide: 1, High: 2}, Open: 1}, "###/# #/# #/# #/###", "1 2 1"},
		{"one row without passages", impl.Maze{Grid: row}, "#########/# # # # #/#########", "4 1 0"},
		{"one row", impl.FullMaze(row), "#########/#       #/#########", "4 1 7"},
		{"one row, the first gap open", impl.Maze{Grid: row, Open: 1}, "#########/#   # # #/#########", "4 1 1"},
		{"one row, the last gap open", impl.Maze{Grid: row, Open: 4}, "#########/# # #   #/#########", "4 1 4"},
		{"one row in two halves", impl.Maze{Grid: row, Open: 5}, "#########/#   #   #/#########", "4 1 5"},
		{"one column without passages", impl.Maze{Grid: column}, "###/# #/###/# #/###/# #/###/# #/###", "1 4 0"},
		{"one column", impl.FullMaze(column), "###/# #/# #/# #/# #/# #/# #/# #/###", "1 4 7"},
		{"one column, the first gap open", impl.Maze{Grid: column, Open: 1}, "###/# #/# #/# #/###/# #/###/# #/###", "1 4 1"},
		{"one column, the last gap open", impl.Maze{Grid: column, Open: 4}, "###/# #/###/# #/###/# #/# #/# #/###", "1 4 4"},
		{"four cells without passages", impl.Maze{Grid: small}, "#####/# # #/#####/# # #/#####", "2 2 0"},
		{"four cells, all gaps open", impl.FullMaze(small), "#####/#   #/# # #/#   #/#####", "2 2 15"},
		{"four cells, gap 0 open", impl.Maze{Grid: small, Open: 1}, "#####/#   #/#####/# # #/#####", "2 2 1"},
		{"four cells, gap 1 open", impl.Maze{Grid: small, Open: 2}, "#####/# # #/#####/#   #/#####", "2 2 2"},
		{"four cells, gap 2 open", impl.Maze{Grid: small, Open: 4}, "#####/# # #/# ###/# # #/#####", "2 2 4"},
		{"four cells, gap 3 open", impl.Maze{Grid: small, Open: 8}, "#####/# # #/### #/# # #/#####", "2 2 8"},
		{"a way around", impl.Maze{Grid: small, Open: 13}, "#####/#   #/# # #/# # #/#####", "2 2 13"},
		{"two parts", bentMaze(), "#######/#   # #/# ### #/# #   #/#######", "3 2 89"},
		{"three columns, all gaps open", impl.FullMaze(wide), "#######/#     #/# # # #/#     #/#######", "3 2 127"},
		{"three columns, without passages", impl.Maze{Grid: wide}, "#######/# # # #/#######/# # # #/#######", "3 2 0"},
		{"three rows, all gaps open", impl.FullMaze(high), "#####/#   #/# # #/#   #/# # #/#   #/#####", "2 3 127"},
		{"three rows, a part of two cells and a part of four", impl.Maze{Grid: high, Open: 1 + 4 + 32 + 64}, "#####/#   #/#####/# # #/# # #/#   #/#####", "2 3 101"},
		{"a cross", crossMaze(), "#######/# # # #/### ###/#     #/### ###/# # # #/#######", "3 3 1164"},
		{"a ring", ringMaze(), "#######/#     #/# ### #/# # # #/# ### #/#     #/#######", "3 3 2931"},
		{"cells of every kind", everyKindMaze(), "#######/#     #/### ###/#     #/# # ###/# # # #/#######", "3 3 1679"},
		{"the largest grid without passages", impl.Maze{Grid: large}, "#########/# # # # #/#########/# # # # #/#########/# # # # #/#########/# # # # #/#########", "4 4 0"},
		{"the largest grid, all gaps open", impl.FullMaze(large), "#########/#       #/# # # # #/#       #/# # # # #/#       #/# # # # #/#       #/#########", "4 4 16777215"},
		{"row by row", rowByRow(), "#########/#       #/####### #/#       #/# #######/#       #/####### #/#       #/#########", "4 4 8491007"},
		{"a comb", combMaze(), "#########/#       #/# #######/#       #/# #######/#       #/# #######/#       #/#########", "4 4 1122303"},
	}
}

// checkDraw holds the drawing and the text of a maze against what is expected, and reads the maze back from both.
func checkDraw(t *testing.T, m impl.Maze, lines []string, text string) {
	t.Helper()
	if got := impl.MazeLines(m); !slices.Equal(got, lines) {
		t.Errorf("MazeLines(%v) = %q, want %q", m, got, lines)
	}
	if got := impl.MazeText(m); got != text {
		t.Errorf("MazeText(%v) = %q, want %q", m, got, text)
	}
	if got, ok := impl.ReadMaze(lines); !ok || got != m {
		t.Errorf("ReadMaze(%q) = %v, %v, want %v, true", lines, got, ok, m)
	}
	if got, ok := impl.ParseMaze(text); !ok || got != m {
		t.Errorf("ParseMaze(%q) = %v, %v, want %v, true", text, got, ok, m)
	}
}

func TestDrawCases(t *testing.T) {
	for _, c := range drawCases() {
		t.Run(c.name, func(t *testing.T) { checkDraw(t, c.m, strings.Split(c.drawing, "/"), c.text) })
	}
}

// drawnLines draws a maze row by row: a line of cells and the gaps between them, and below it the gaps to the next row.
func drawnLines(m impl.Maze) []string {
	g := m.Grid
	open := map[neighborPair]bool{}
	for gap, ends := range gapsInOrder(g) {
		open[ends] = isDrawnOpen(m, gap)
	}
	character := func(first, second int) string {
		if open[neighborPair{first, second}] {
			return " "
		}
		return "#"
	}
	lines := []string{strings.Repeat("#", 2*g.Wide+1)}
	for row := range g.High {
		cells, below := "#", "#"
		for column := range g.Wide {
			cell := row*g.Wide + column
			if column+1 < g.Wide {
				cells += " " + character(cell, cell+1)
			} else {
				cells += " #"
			}
			below += character(cell, cell+g.Wide) + "#"
		}
		lines = append(lines, cells, below)
	}
	return lines
}

// drawnText writes the three numbers of a maze with their digits.
func drawnText(m impl.Maze) string {
	return strconv.Itoa(m.Grid.Wide) + " " + strconv.Itoa(m.Grid.High) + " " + strconv.Itoa(m.Open)
}

// TestReadBack is promise 8: a maze is read back from its drawing and from its text. It reads every maze of the grids with up to 12 gaps, and some of the larger ones.
func TestReadBack(t *testing.T) {
	for _, g := range allGrids() {
		for _, m := range append(someMazes(g), almostPerfectMazes(g)...) {
			if got, ok := impl.ReadMaze(impl.MazeLines(m)); !ok || got != m {
				t.Errorf("the drawing %q of %v is read as %v, %v", impl.MazeLines(m), m, got, ok)
			}
			if got, ok := impl.ParseMaze(impl.MazeText(m)); !ok || got != m {
				t.Errorf("the text %q of %v is read as %v, %v", impl.MazeText(m), m, got, ok)
			}
		}
	}
}

func TestDrawAsDrawn(t *testing.T) {
	for _, g := range allGrids() {
		for _, m := range append(someMazes(g), almostPerfectMazes(g)...) {
			checkDraw(t, m, drawnLines(m), drawnText(m))
		}
	}
}

// TestDrawEveryGap opens each gap of each grid alone, and closes each one alone: the drawing differs in one place from the one without passages or with all of them.
func TestDrawEveryGap(t *testing.T) {
	for _, g := range allGrids() {
		walls, full := strings.Join(impl.MazeLines(impl.Maze{Grid: g}), ""), strings.Join(impl.MazeLines(impl.FullMaze(g)), "")
		for gap, ends := range gapsInOrder(g) {
			line, place := 2*(ends.first/g.Wide)+1, 2*(ends.first%g.Wide)+1
			if ends.second == ends.first+g.Wide {
				line++
			}
			if line%2 == 1 {
				place++
			}
			at := line*(2*g.Wide+1) + place
			open := strings.Join(impl.MazeLines(withGap(impl.Maze{Grid: g}, gap, true)), "")
			if want := walls[:at] + " " + walls[at+1:]; open != want {
				t.Errorf("%v with gap %d alone is drawn as %q, want %q", g, gap, open, want)
			}
			closed := strings.Join(impl.MazeLines(withGap(impl.FullMaze(g), gap, false)), "")
			if want := full[:at] + "#" + full[at+1:]; closed != want {
				t.Errorf("%v without gap %d is drawn as %q, want %q", g, gap, closed, want)
			}
		}
	}
}

// checkNoDrawing expects that no maze has these lines.
func checkNoDrawing(t *testing.T, lines []string) {
	t.Helper()
	if got, ok := impl.ReadMaze(lines); ok || got != (impl.Maze{}) {
		t.Errorf("ReadMaze(%q) = %v, %v, want the zero Maze and false", lines, got, ok)
	}
}

// mazesToSpoil holds some mazes of each grid, among them the one without passages and the one with all of them.
func mazesToSpoil() []impl.Maze {
	var list []impl.Maze
	for _, g := range allGrids() {
		list = append(list, impl.Maze{Grid: g}, impl.FullMaze(g), drawnKruskal(g, shuffledOrder(g, 3)), impl.Maze{Grid: g, Open: 1234567 % mazeCount(g)})
	}
	return list
}

// spoiled returns the lines with the character at a place replaced.
func spoiled(lines []string, line int, place int, character string) []string {
	changed := slices.Clone(lines)
	changed[line] = lines[line][:place] + character + lines[line][place+1:]
	return changed
}

// TestWrongCorners opens each corner alone, all of them, and all of them in one line.
func TestWrongCorners(t *testing.T) {
	for _, m := range mazesToSpoil() {
		lines := drawnLines(m)
		all := slices.Clone(lines)
		for line := 0; line < len(lines); line += 2 {
			row := slices.Clone(lines)
			for place := 0; place < len(lines[0]); place += 2 {
				checkNoDrawing(t, spoiled(lines, line, place, " "))
				row = spoiled(row, line, place, " ")
				all = spoiled(all, line, place, " ")
			}
			checkNoDrawing(t, row)
		}
		checkNoDrawing(t, all)
	}
}

// TestOpeningsInTheOutside opens each piece of the outside, corners or not, alone and together with the opposite one.
func TestOpeningsInTheOutside(t *testing.T) {
	for _, m := range mazesToSpoil() {
		lines := drawnLines(m)
		bottom, east := len(lines)-1, len(lines[0])-1
		for place := range lines[0] {
			for _, changed := range [][]string{spoiled(lines, 0, place, " "), spoiled(lines, bottom, place, " "), spoiled(spoiled(lines, 0, place, " "), bottom, place, " ")} {
				checkNoDrawing(t, changed)
			}
		}
		for line := range lines {
			for _, changed := range [][]string{spoiled(lines, line, 0, " "), spoiled(lines, line, east, " "), spoiled(spoiled(lines, line, 0, " "), line, east, " ")} {
				checkNoDrawing(t, changed)
			}
		}
	}
}

// TestFilledCells fills each cell alone, all of them, and each one together with the gaps around it.
func TestFilledCells(t *testing.T) {
	for _, m := range mazesToSpoil() {
		lines := drawnLines(m)
		all := slices.Clone(lines)
		for line := 1; line < len(lines); line += 2 {
			for place := 1; place < len(lines[0]); place += 2 {
				filled := spoiled(lines, line, place, "#")
				checkNoDrawing(t, filled)
				filled = spoiled(spoiled(filled, line-1, place, "#"), line+1, place, "#")
				filled = spoiled(spoiled(filled, line, place-1, "#"), line, place+1, "#")
				checkNoDrawing(t, filled)
				all = spoiled(all, line, place, "#")
			}
		}
		checkNoDrawing(t, all)
		for line := range all {
			all[line] = strings.Repeat("#", len(all[line]))
		}
		checkNoDrawing(t, all)
		for line := range all {
			all[line] = strings.Repeat(" ", len(all[line]))
		}
		checkNoDrawing(t, all)
	}
}

// TestEveryChangeOfACharacter exchanges "#" and " " at each place: where a gap stands, the maze with this gap changed is read; anywhere else, none.
func TestEveryChangeOfACharacter(t *testing.T) {
	for _, m := range mazesToSpoil() {
		others := map[string]impl.Maze{}
		for gap := range gapsInOrder(m.Grid) {
			other := withGap(m, gap, !isDrawnOpen(m, gap))
			others[strings.Join(drawnLines(other), "/")] = other
		}
		lines := drawnLines(m)
		found := 0
		for line := range lines {
			for place := range lines[line] {
				character := "#"
				if lines[line][place] == '#' {
					character = " "
				}
				changed := spoiled(lines, line, place, character)
				want, isMaze := others[strings.Join(changed, "/")]
				if got, ok := impl.ReadMaze(changed); ok != isMaze || got != want {
					t.Errorf("ReadMaze(%q) = %v, %v, want %v, %v", changed, got, ok, want, isMaze)
				}
				if isMaze {
					found++
				}
			}
		}
		if found != len(others) {
			t.Errorf("%v: %d places have a gap, want %d", m, found, len(others))
		}
	}
}

// TestEverySmallDrawing reads all lines of "#" and " " with the sizes of the grids of one and of two cells.
func TestEverySmallDrawing(t *testing.T) {
	for _, g := range []impl.Grid{{Wide: 1, High: 1}, {Wide: 2, High: 1}, {Wide: 1, High: 2}} {
		wide, high := 2*g.Wide+1, 2*g.High+1
		mazes := map[string]impl.Maze{}
		for _, m := range someMazes(g) {
			mazes[strings.Join(drawnLines(m), "")] = m
		}
		for number := range 1 << (wide * high) {
			characters := make([]byte, wide*high)
			for i := range characters {
				characters[i] = "# "[number>>i&1]
			}
			var lines []string
			for row := range high {
				lines = append(lines, string(characters[row*wide:(row+1)*wide]))
			}
			want, isMaze := mazes[string(characters)]
			if got, ok := impl.ReadMaze(lines); ok != isMaze || got != want {
				t.Errorf("ReadMaze(%q) = %v, %v, want %v, %v", lines, got, ok, want, isMaze)
			}
		}
	}
}

// TestOtherCharacters puts each byte other than "#" and " ", some characters of several bytes and some bytes that are no valid UTF-8 at each place, in place of its character and of as many characters as bytes.
func TestOtherCharacters(t *testing.T) {
	var others []string
	for _, c := range []byte(allBytes()) {
		if c != '#' && c != ' ' {
			others = append(others, string([]byte{c}))
		}
	}
	others = append(others, "\u00a0", "\u0120", "\u0123", "\u2003", "\u2020", "\u2588", "\u3000", "\uff03", "\ufffd", "\U00010020", "\U00010023", "\u0120\u0123", "\xc0\xa0", "\xff\xfe", "\xe2\x96", "\t", "")
	for _, m := range []impl.Maze{{Grid: impl.Grid{Wide: 1, High: 1}}, {Grid: impl.Grid{Wide: 2, High: 2}, Open: 13}, impl.FullMaze(impl.Grid{Wide: 2, High: 2}), bentMaze(), rowByRow()} {
		lines := drawnLines(m)
		for line := range lines {
			for place := range lines[line] {
				for _, other := range others {
					checkNoDrawing(t, spoiled(lines, line, place, other))
					if end := place + len(other); len(other) > 1 && end <= len(lines[line]) {
						changed := slices.Clone(lines)
						changed[line] = lines[line][:place] + other + lines[line][end:]
						checkNoDrawing(t, changed)
					}
				}
			}
		}
	}
}

// TestOtherCharactersAlone draws whole mazes with other characters, and with several lines in one string.
func TestOtherCharactersAlone(t *testing.T) {
	for _, m := range mazesToSpoil() {
		for _, pair := range [][2]string{{"X", " "}, {"#", "."}, {"#", "\u00a0"}, {"\u2588", " "}, {" ", "#"}, {"##", "  "}, {"#", ""}, {"", " "}, {"\xff", " "}, {"#", "\xa0"}, {"#", "\x00"}} {
			var lines []string
			for _, line := range drawnLines(m) {
				lines = append(lines, strings.NewReplacer("#", pair[0], " ", pair[1]).Replace(line))
			}
			checkNoDrawing(t, lines)
		}
		lines := drawnLines(m)
		checkNoDrawing(t, []string{strings.Join(lines, "\n")})
		checkNoDrawing(t, []string{strings.Join(lines, "")})
		var ended []string
		for _, line := range lines {
			ended = append(ended, line+"\n")
		}
		checkNoDrawing(t, ended)
	}
}

// TestLineTooShortOrTooLong changes the length of each line, at its end and at its beginning, alone and in all lines.
func TestLineTooShortOrTooLong(t *testing.T) {
	changes := []func(line string) string{
		func(line string) string { return line[1:] },
		func(line string) string { return line[:len(line)-1] },
		func(line string) string { return line[2:] },
		func(line string) string { return line[:len(line)-2] },
		func(line string) string { return "" },
		func(line string) string { return "#" + line },
		func(line string) string { return line + "#" },
		func(line string) string { return " " + line },
		func(line string) string { return line + " " },
		func(line string) string { return line + "##" },
		func(line string) string { return line + " #" },
		func(line string) string { return line + "\n" },
		func(line string) string { return line + "\x00" },
		func(line string) string { return line + strings.Repeat("#", 10000) },
		func(line string) string { return line + strings.Repeat(" ", 10000) },
	}
	for _, m := range mazesToSpoil() {
		lines := drawnLines(m)
		for _, change := range changes {
			for line := range lines {
				changed := slices.Clone(lines)
				changed[line] = change(lines[line])
				checkNoDrawing(t, changed)
			}
		}
		// Where all lines change by one character, they have an even number of them, which no drawing has.
		for _, change := range []func(string) string{changes[0], changes[1], changes[5], changes[6], changes[7], changes[8], changes[11], changes[12]} {
			var changed []string
			for _, line := range lines {
				changed = append(changed, change(line))
			}
			checkNoDrawing(t, changed)
		}
	}
}

// TestTooFewAndTooManyLines leaves out each line, and puts a line ahead of each one and behind the last one. The number of lines is even then.
func TestTooFewAndTooManyLines(t *testing.T) {
	for _, m := range mazesToSpoil() {
		lines := drawnLines(m)
		walls, inside := lines[0], "#"+strings.Repeat(" ", len(lines[0])-2)+"#"
		for i := range lines {
			checkNoDrawing(t, slices.Delete(slices.Clone(lines), i, i+1))
			// An odd number of the first lines could be the drawing of fewer rows.
			checkNoDrawing(t, lines[:i-i%2])
		}
		for i := range len(lines) + 1 {
			for _, line := range []string{walls, inside, lines[1], "", "#", strings.Repeat(" ", len(walls))} {
				checkNoDrawing(t, slices.Insert(slices.Clone(lines), i, line))
			}
		}
		checkNoDrawing(t, append(slices.Clone(lines), lines...))
		checkNoDrawing(t, append(slices.Clone(lines), "", ""))
		checkNoDrawing(t, append([]string{"", ""}, lines...))
		checkNoDrawing(t, append(slices.Clone(lines), inside, inside))
		checkNoDrawing(t, append(slices.Clone(lines), walls, walls))
		checkNoDrawing(t, slices.Repeat(lines, 1001))
	}
}

func TestNoLines(t *testing.T) {
	for _, lines := range [][]string{
		nil, {}, {""}, {"", ""}, {"", "", ""}, {" "}, {"#"}, {"##"}, {"###"}, {"# #"}, {"#########"},
		{"###", "# #"}, {"# #", "###"}, {"###", "###"}, {"#", "#", "#"}, {"##", "##", "##"}, {"#", " ", "#"}, {"##", "# ", "##"}, {"##", "#  ", "##"},
		{"", "# #", "###"}, {"###", "", "###"}, {"###", "# #", ""}, {"", "", "", "", ""}, {"###", "###", "###"}, {"   ", "   ", "   "}, {"###", "# #", "###", "# #"},
		{"###", "# #", "# #"}, {"# #", "# #", "###"}, {"####", "#  #", "####"}, {"2 2 13"},
	} {
		checkNoDrawing(t, lines)
	}
	checkNoDrawing(t, make([]string, 9))
	checkNoDrawing(t, make([]string, 100000))
	checkNoDrawing(t, slices.Repeat([]string{"#########"}, 100001))
}

// TestLargerDrawings draws grids that are larger than any maze has, without passages and with all of them.
func TestLargerDrawings(t *testing.T) {
	sizes := []impl.Grid{{Wide: 5, High: 1}, {Wide: 5, High: 3}, {Wide: 5, High: 4}, {Wide: 6, High: 4}, {Wide: 16, High: 4}, {Wide: 17, High: 1}, {Wide: 1, High: 5}, {Wide: 3, High: 5}, {Wide: 4, High: 5}, {Wide: 4, High: 6}, {Wide: 4, High: 16}, {Wide: 5, High: 5}, {Wide: 8, High: 8}, {Wide: 20, High: 20}, {Wide: 1000, High: 1}, {Wide: 1, High: 1000}, {Wide: 100000, High: 2}}
	for _, g := range sizes {
		walls, cells, open := strings.Repeat("##", g.Wide)+"#", strings.Repeat("# ", g.Wide)+"#", "#"+strings.Repeat(" ", 2*g.Wide-1)+"#"
		closed, full := []string{walls}, []string{walls}
		for row := range g.High {
			closed, full = append(closed, cells, walls), append(full, open, cells)
			if row+1 == g.High {
				full[len(full)-1] = walls
			}
		}
		checkNoDrawing(t, closed)
		checkNoDrawing(t, full)
	}
}

func TestDrawBadMazes(t *testing.T) {
	for _, m := range badMazes() {
		if got := impl.MazeLines(m); len(got) != 0 {
			t.Errorf("MazeLines(%v) = %q, want none", m, got)
		}
		if got := impl.MazeText(m); got != "" {
			t.Errorf("MazeText(%v) = %q, want the empty text", m, got)
		}
		if got, ok := impl.ParseMaze(drawnText(m)); ok || got != (impl.Maze{}) {
			t.Errorf("ParseMaze(%q) = %v, %v, want the zero Maze and false", drawnText(m), got, ok)
		}
	}
	checkNoDrawing(t, impl.MazeLines(impl.Maze{}))
}

var threeNumbers = regexp.MustCompile(`^(0|[1-9][0-9]*) (0|[1-9][0-9]*) (0|[1-9][0-9]*)\z`)

// mazeOfText reads a text number by number, however large they are.
func mazeOfText(s string) (impl.Maze, bool) {
	match := threeNumbers.FindStringSubmatch(s)
	if match == nil {
		return impl.Maze{}, false
	}
	var numbers [3]int
	for i := range numbers {
		n, _ := new(big.Int).SetString(match[i+1], 10)
		if n.Cmp(big.NewInt(1<<24)) >= 0 {
			return impl.Maze{}, false
		}
		numbers[i] = int(n.Int64())
	}
	m := impl.Maze{Grid: impl.Grid{Wide: numbers[0], High: numbers[1]}, Open: numbers[2]}
	if !slices.Contains(allGrids(), m.Grid) || m.Open >= mazeCount(m.Grid) {
		return impl.Maze{}, false
	}
	return m, true
}

// checkText holds ParseMaze against the text read number by number.
func checkText(t *testing.T, s string) {
	t.Helper()
	want, isText := mazeOfText(s)
	if got, ok := impl.ParseMaze(s); ok != isText || got != want {
		t.Errorf("ParseMaze(%q) = %v, %v, want %v, %v", s, got, ok, want, isText)
	}
}

func TestParseMazeOfNoText(t *testing.T) {
	long, spaces := strings.Repeat("0", 600), strings.Repeat(" ", 600)
	texts := []string{
		"", " ", "  ", "   ", "0", "2", "2 2", "13", "2 2 ", " 2 2", "2 2 13 0", "2 2 13 13", "2 2 13 2 2 13", "2 2 1 3", "2213", "22 13", "2 213",
		"2  2 13", "2 2  13", "2  2  13", " 2 2 13", "2 2 13 ", " 2 2 13 ", "  2 2 13", "2 2 13  ",
		"2\t2 13", "2 2\t13", "\t2 2 13", "2 2 13\t", "2 2 13\n", "2 2 13\r\n", "\n2 2 13", "2\n2\n13", "2 2 13\x00", "2,2,13", "2 2,13", "2x2 13", "2\u00a02 13", "2\u20032 13", "\ufeff2 2 13",
		"+2 2 13", "2 +2 13", "2 2 +13", "-2 2 13", "2 -2 13", "2 2 -13", "-2 -2 13", "2 2 -0", "2 2 +0", "1 1 -0", "1 1 -1", "2 2 - 13", "-1 -1 0", "--2 2 13",
		"02 2 13", "2 02 13", "2 2 013", "2 2 00", "1 1 00", "1 1 01", "01 1 0", "2 2 0013", "00 2 1", "0x2 2 13", "2 2 0xd", "2 2 0b1101", "2 2 1_3",
		"a 2 13", "2 b 13", "2 2 c", "two two 13", "2 2 d", "2 2 D", "2 2 13a", "2 2 a13", "2 2 1e1", "2 2 1.0", "2 2 13.", "2. 2 13", "2 2 '13'", "\u0662 2 13", "2 2 \u0661", "2 2 \uff11", "2 2 1\xff", "#####", "2 2 ?",
		"2 2 16", "2 2 17", "2 2 32", "1 1 1", "1 1 2", "2 1 2", "1 2 2", "4 1 8", "1 4 8", "3 2 128", "2 3 128", "3 3 4096", "4 3 131072", "3 4 131072", "4 4 16777216", "4 4 33554432", "4 4 1000000000", "4 4 1000000001",
		"0 0 0", "0 1 0", "1 0 0", "0 2 1", "2 0 1", "5 1 0", "1 5 0", "5 4 0", "4 5 0", "5 5 0", "5 5 1", "16 16 0", "10 1 0", "1 10 0", "0 4 0",
		"2 2 4294967296", "2 2 4294967309", "2 2 9223372036854775807", "2 2 9223372036854775808", "2 2 18446744073709551616", "2 2 18446744073709551629", "2 2 -18446744073709551603",
		"4294967298 2 13", "2 4294967298 13", "18446744073709551618 2 13", "2 18446744073709551618 13", "-18446744073709551614 2 13", "2 2 1" + long, "2 2 " + long, long + "2 2 13", spaces + "2 2 13", "2 2 13" + spaces, "2 2" + spaces + "13",
	}
	for _, s := range texts {
		if got, ok := impl.ParseMaze(s); ok || got != (impl.Maze{}) {
			t.Errorf("ParseMaze(%q) = %v, %v, want the zero Maze and false", s, got, ok)
		}
		checkText(t, s)
	}
}

// TestTextsOfNumbers tries the numbers around the limits of each grid, and grids beyond the limits.
func TestTextsOfNumbers(t *testing.T) {
	found := 0
	for wide := -1; wide <= 10; wide++ {
		for high := -1; high <= 10; high++ {
			opens := []int{-16, -2, -1, 1 << 24, 1<<24 + 1, 1000000000, 1000000001}
			for power := 0; power <= 25; power++ {
				opens = append(opens, 1<<power-1, 1<<power, 1<<power+1)
			}
			for _, open := range opens {
				s := strconv.Itoa(wide) + " " + strconv.Itoa(high) + " " + strconv.Itoa(open)
				checkText(t, s)
				if _, ok := mazeOfText(s); ok {
					found++
				}
			}
		}
	}
	if found < 16 {
		t.Errorf("only %d of the texts are texts of mazes", found)
	}
}

// TestParseMazeBytes puts each byte in place of each byte of a text, ahead of it and behind it, and leaves out each byte.
func TestParseMazeBytes(t *testing.T) {
	for _, text := range []string{"1 1 0", "2 2 13", "2 1 1", "4 3 4095", "3 4 131071", "4 4 16777215"} {
		for place := range len(text) + 1 {
			for _, c := range []byte(allBytes()) {
				character := string([]byte{c})
				checkText(t, text[:place]+character+text[place:])
				if place < len(text) {
					checkText(t, text[:place]+character+text[place+1:])
				}
			}
			if place < len(text) {
				checkText(t, text[:place]+text[place+1:])
				checkText(t, text[:place])
				checkText(t, text[place:])
			}
		}
	}
}

// TestEveryShortText reads all texts of up to five of the characters "0", "1", "2", "5", " " and "-".
func TestEveryShortText(t *testing.T) {
	texts := []string{""}
	for i := 0; len(texts[i]) < 5; i++ {
		for _, character := range []string{"0", "1", "2", "5", " ", "-"} {
			texts = append(texts, texts[i]+character)
		}
	}
	found := 0
	for _, s := range texts {
		checkText(t, s)
		if _, ok := mazeOfText(s); ok {
			found++
		}
	}
	// These are 1 1 0, two texts for each grid of two cells, and 2 2 0, 2 2 1, 2 2 2 and 2 2 5.
	if found != 9 {
		t.Errorf("%d of the short texts are texts of mazes, want 9", found)
	}
}

// TestDrawIsNewMemory changes a result, and hands over lines with spare capacity, which ReadMaze may not change.
func TestDrawIsNewMemory(t *testing.T) {
	m := impl.Maze{Grid: impl.Grid{Wide: 2, High: 2}, Open: 13}
	want := []string{"#####", "#   #", "# # #", "# # #", "#####"}
	lines := impl.MazeLines(m)
	for i := range lines {
		lines[i] = "changed"
	}
	if again := impl.MazeLines(m); !slices.Equal(again, want) {
		t.Errorf("MazeLines(%v) = %q after a result was changed, want %q", m, again, want)
	}
	all := append(slices.Clone(want), "spare", "capacity")
	if got, ok := impl.ReadMaze(all[:5]); !ok || got != m {
		t.Errorf("ReadMaze(%q) = %v, %v, want %v, true", all[:5], got, ok, m)
	}
	if again := append(slices.Clone(want), "spare", "capacity"); !slices.Equal(all, again) {
		t.Errorf("the lines are %q, want %q", all, again)
	}
	checkNoDrawing(t, all[:4])
	checkNoDrawing(t, all[:6])
	checkNoDrawing(t, all)
}
