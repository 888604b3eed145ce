package tests

import (
	"math"
	"slices"
	"strings"
	"testing"

	"loop.example/g00961/impl"
)

// longestGrid has the longest shortest path that a grid of MaxSide by MaxSide can have: its 42 free cells, in a single line from longestFrom to longestTo.
func longestGrid() impl.Grid {
	return gridWith(
		".....#..",
		".###..#.",
		"....#.#.",
		"###..#..",
		"...#.#.#",
		".#...#..",
		"..#####.",
		"#.......",
	)
}

const (
	longestFrom  = 21
	longestTo    = 6
	longestSteps = 41
)

// turningGrid is one line from the first row to the last one: every other row is blocked except at one end, right and left in turn.
func turningGrid() impl.Grid {
	return gridWith("........", "#######.", "........", ".#######", "........", "#######.", "........", ".#######")
}

// stepsGrids has the grids on which all pairs of cells are checked: among them one row, one column, one cell, and MaxSide by MaxSide.
func stepsGrids() []impl.Grid {
	return append(cellsGrids(), longestGrid(),
		gridWith("..#.."), gridWith(".", ".", "#", "."), gridWith("..", "##", ".."),
		gridWith("A.b.C", ".###.", ".#f#.", ".###.", "e...D"),
		gridWith("...", ".#.", "..."), gridWith(".....", ".....", "....."),
	)
}

// plainDistances finds the distances of all pairs of cells without a search: it lets each cell in turn be passed. Cells that cannot be reached have -1.
func plainDistances(g impl.Grid) [][]int {
	n := len(g.Cells)
	const far = 1000
	dist := make([][]int, n)
	for a := range n {
		dist[a] = slices.Repeat([]int{far}, n)
		if g.Cells[a] != '#' {
			dist[a][a] = 0
		}
		for _, b := range plainAround(g, a) {
			dist[a][b] = 1
		}
	}
	for via := range n {
		for a := range n {
			for b := range n {
				dist[a][b] = min(dist[a][b], dist[a][via]+dist[via][b])
			}
		}
	}
	for _, row := range dist {
		for b := range row {
			if row[b] >= far {
				row[b] = -1
			}
		}
	}
	return dist
}

// plainSteps is what StepsFrom should return for existing free cells.
func plainSteps(dist [][]int, from []int) []int {
	steps := slices.Repeat([]int{-1}, len(dist))
	for _, a := range from {
		for c, n := range dist[a] {
			if n >= 0 && (steps[c] < 0 || n < steps[c]) {
				steps[c] = n
			}
		}
	}
	return steps
}

// plainWay is what WayTo should return for existing cells.
func plainWay(g impl.Grid, dist [][]int, a int, b int) []int {
	if dist[a][b] < 0 {
		return nil
	}
	way := []int{a}
	for a != b {
		near := plainAround(g, a)
		a = near[slices.IndexFunc(near, func(c int) bool { return dist[c][b] < dist[a][b] })]
		way = append(way, a)
	}
	return way
}

func freeCellsOf(g impl.Grid) []int {
	var free []int
	for c := range len(g.Cells) {
		if g.Cells[c] != '#' {
			free = append(free, c)
		}
	}
	return free
}

// checkPath checks what every path must satisfy, whichever shortest path is chosen.
func checkPath(t *testing.T, g impl.Grid, a int, b int, way []int, steps int) {
	t.Helper()
	if steps < 0 {
		if len(way) != 0 {
			t.Errorf("in %+v, WayTo of %d and %d is %v, and StepsTo %d", g, a, b, way, steps)
		}
		return
	}
	if len(way) != steps+1 || way[0] != a || way[len(way)-1] != b {
		t.Errorf("in %+v, WayTo of %d and %d is %v, and StepsTo %d", g, a, b, way, steps)
	}
	for i := 1; i < len(way); i++ {
		if !impl.Beside(g, way[i-1], way[i]) {
			t.Errorf("in %+v, WayTo of %d and %d is %v: step %d leads to no adjacent cell", g, a, b, way, i)
		}
	}
}

// checkTriangles checks the distances of StepsTo with each other: symmetric, and at most those over a third cell.
func checkTriangles(t *testing.T, g impl.Grid, dist [][]int) {
	t.Helper()
	for a := range dist {
		for b := range dist {
			if dist[a][b] != dist[b][a] {
				t.Errorf("in %+v, StepsTo of %d and %d is %d, and of %d and %d %d", g, a, b, dist[a][b], b, a, dist[b][a])
			}
			if dist[a][b] < 0 {
				continue
			}
			for c := range dist {
				if dist[b][c] >= 0 && (dist[a][c] < 0 || dist[a][c] > dist[a][b]+dist[b][c]) {
					t.Errorf("in %+v, StepsTo from %d is %d to %d, and %d to %d, which is %d from there", g, a, dist[a][c], c, dist[a][b], b, dist[b][c])
				}
			}
		}
	}
}

func TestStepsExample(t *testing.T) {
	g := exampleGrid()
	if got := impl.StepsFrom(g, []int{0, 5}); !slices.Equal(got, []int{0, -1, 1, 1, 1, 0}) {
		t.Errorf("StepsFrom(example, 0 and 5) = %v", got)
	}
	if there, back := impl.StepsTo(g, 0, 2), impl.StepsTo(g, 2, 0); there != 4 || back != 4 {
		t.Errorf("StepsTo of 0 and 2 = %d and %d, want 4", there, back)
	}
	if got := impl.WayTo(g, 0, 2); !slices.Equal(got, []int{0, 3, 4, 5, 2}) {
		t.Errorf("WayTo(example, 0, 2) = %v", got)
	}
	if got := impl.WayTo(g, 2, 0); !slices.Equal(got, []int{2, 5, 4, 3, 0}) {
		t.Errorf("WayTo(example, 2, 0) = %v", got)
	}
}

// Promise 4, on all grids and all pairs of cells, in each order.
func TestStepsOfAllGrids(t *testing.T) {
	for _, g := range stepsGrids() {
		want := plainDistances(g)
		got := make([][]int, len(g.Cells))
		for a := range got {
			got[a] = make([]int, len(g.Cells))
			for b := range got {
				got[a][b] = impl.StepsTo(g, a, b)
				way := impl.WayTo(g, a, b)
				if got[a][b] != want[a][b] || !slices.Equal(way, plainWay(g, want, a, b)) {
					t.Errorf("in %+v, StepsTo of %d and %d is %d, want %d, and WayTo %v, want %v", g, a, b, got[a][b], want[a][b], way, plainWay(g, want, a, b))
				}
				checkPath(t, g, a, b, way, got[a][b])
			}
		}
		checkTriangles(t, g, got)
	}
}

// No cells, each cell, each pair of cells, each cell twice, and all free cells; the order of the list does not matter.
func TestStepsFromLists(t *testing.T) {
	for _, g := range stepsGrids() {
		dist := plainDistances(g)
		free := freeCellsOf(g)
		lists := [][]int{nil, {}, free, append(slices.Clone(free), free...)}
		for i, a := range free {
			lists = append(lists, []int{a}, []int{a, a}, free[i:])
			b := free[len(free)-1-i]
			lists = append(lists, []int{a, b}, []int{b, a, b})
		}
		for _, from := range lists {
			want := plainSteps(dist, from)
			back := slices.Clone(from)
			slices.Reverse(back)
			if got, turned := impl.StepsFrom(g, from), impl.StepsFrom(g, back); !slices.Equal(got, want) || !slices.Equal(turned, want) {
				t.Errorf("StepsFrom(%+v, %v) = %v, reversed %v, want %v", g, from, got, turned, want)
			}
		}
	}
}

// Each set of free cells of each grid of at most 6 cells.
func TestStepsFromSets(t *testing.T) {
	for _, g := range smallGrids() {
		if len(g.Cells) > 6 {
			continue
		}
		dist := plainDistances(g)
		free := freeCellsOf(g)
		for bits := range 1 << len(free) {
			var from []int
			for i, c := range free {
				if bits>>i&1 == 1 {
					from = append(from, c)
				}
			}
			if got, want := impl.StepsFrom(g, from), plainSteps(dist, from); !slices.Equal(got, want) {
				t.Errorf("StepsFrom(%+v, %v) = %v, want %v", g, from, got, want)
			}
		}
	}
}

func TestStepsFromTables(t *testing.T) {
	cases := []struct {
		name string
		g    impl.Grid
		from []int
		want []int
	}{
		{"no cells", exampleGrid(), nil, []int{-1, -1, -1, -1, -1, -1}},
		{"no cells of a blocked grid", gridWith("##", "##"), nil, []int{-1, -1, -1, -1}},
		{"one cell", exampleGrid(), []int{0}, []int{0, -1, 4, 1, 2, 3}},
		{"one cell twice", exampleGrid(), []int{0, 0}, []int{0, -1, 4, 1, 2, 3}},
		{"all free cells", exampleGrid(), []int{0, 2, 3, 4, 5}, []int{0, -1, 0, 0, 0, 0}},
		{"one cell of one", gridWith("F"), []int{0}, []int{0}},
		{"a row", gridWith("....."), []int{1}, []int{1, 0, 1, 2, 3}},
		{"a row from both ends", gridWith("....."), []int{4, 0}, []int{0, 1, 2, 1, 0}},
		{"a column", gridWith(".", ".", ".", "."), []int{3}, []int{3, 2, 1, 0}},
		{"blocked cells between", gridWith("..#.."), []int{0}, []int{0, 1, -1, -1, -1}},
		{"on both sides of blocked cells", gridWith("..#.."), []int{0, 4}, []int{0, 1, -1, 1, 0}},
		{"only the corners meet", gridWith(".#", "#."), []int{0}, []int{0, -1, -1, -1}},
		{"the end of a row is not beside the next one", gridWith("..", ".."), []int{1}, []int{1, 0, 2, 1}},
		{"zones and parking cells", gridWith("aA#", "#fF"), []int{0}, []int{0, 1, -1, -1, 2, 3}},
	}
	for _, c := range cases {
		if got := impl.StepsFrom(c.g, c.from); !slices.Equal(got, c.want) {
			t.Errorf("%s: StepsFrom(%+v, %v) = %v, want %v", c.name, c.g, c.from, got, c.want)
		}
	}
}

func TestWayToChoices(t *testing.T) {
	three := gridWith("...", "...", "...")
	ring := gridWith("...", ".#.", "...")
	cases := []struct {
		name string
		g    impl.Grid
		a, b int
		want []int
	}{
		{"to itself", three, 4, 4, []int{4}},
		{"to itself, alone", gridWith("#.#"), 1, 1, []int{1}},
		{"to itself in a grid of one cell", gridWith("a"), 0, 0, []int{0}},
		{"adjacent above", three, 4, 1, []int{4, 1}},
		{"adjacent left", three, 4, 3, []int{4, 3}},
		{"adjacent right", three, 4, 5, []int{4, 5}},
		{"adjacent below", three, 4, 7, []int{4, 7}},
		{"right before below", three, 0, 8, []int{0, 1, 2, 5, 8}},
		{"above before left", three, 8, 0, []int{8, 5, 2, 1, 0}},
		{"left before below", three, 2, 6, []int{2, 1, 0, 3, 6}},
		{"above before right", three, 6, 2, []int{6, 3, 0, 1, 2}},
		{"around a blocked cell", ring, 1, 7, []int{1, 0, 3, 6, 7}},
		{"around a blocked cell, back", ring, 7, 1, []int{7, 6, 3, 0, 1}},
		{"around a blocked cell, across", ring, 3, 5, []int{3, 0, 1, 2, 5}},
		{"around a blocked cell, across and back", ring, 5, 3, []int{5, 2, 1, 0, 3}},
		{"the shorter side of a ring", ring, 0, 5, []int{0, 1, 2, 5}},
		{"a row", gridWith("....."), 1, 4, []int{1, 2, 3, 4}},
		{"a row, back", gridWith("....."), 4, 1, []int{4, 3, 2, 1}},
		{"a column", gridWith(".", ".", ".", "."), 0, 3, []int{0, 1, 2, 3}},
		{"a column, back", gridWith(".", ".", ".", "."), 3, 0, []int{3, 2, 1, 0}},
		{"blocked cells between", gridWith("..#.."), 0, 4, nil},
		{"only the corners meet", gridWith(".#", "#."), 0, 3, nil},
	}
	for _, c := range cases {
		if got := impl.WayTo(c.g, c.a, c.b); !slices.Equal(got, c.want) {
			t.Errorf("%s: WayTo(%+v, %d, %d) = %v, want %v", c.name, c.g, c.a, c.b, got, c.want)
		}
		if got := impl.StepsTo(c.g, c.a, c.b); got != len(c.want)-1 {
			t.Errorf("%s: StepsTo(%+v, %d, %d) = %d, want %d", c.name, c.g, c.a, c.b, got, len(c.want)-1)
		}
	}
}

func TestLongestPaths(t *testing.T) {
	n := impl.MaxSide
	row := gridWith(strings.Repeat(".", n))
	column := gridWith(strings.Split(strings.Repeat(".", n), "")...)
	full := impl.Grid{Wide: n, High: n, Cells: strings.Repeat(".", n*n)}
	cases := []struct {
		g     impl.Grid
		a, b  int
		steps int
	}{
		{row, 0, n - 1, n - 1},
		{column, 0, n - 1, n - 1},
		{full, 0, n*n - 1, 2*n - 2},
		{full, n - 1, n*n - n, 2*n - 2},
		{turningGrid(), 0, n*n - n, 4*n + 3},
		{longestGrid(), longestFrom, longestTo, longestSteps},
	}
	for _, c := range cases {
		for _, ends := range [][2]int{{c.a, c.b}, {c.b, c.a}} {
			a, b := ends[0], ends[1]
			if got := impl.StepsTo(c.g, a, b); got != c.steps {
				t.Errorf("StepsTo(%+v, %d, %d) = %d, want %d", c.g, a, b, got, c.steps)
			}
			checkPath(t, c.g, a, b, impl.WayTo(c.g, a, b), c.steps)
			if got := slices.Max(impl.StepsFrom(c.g, []int{a})); got != c.steps {
				t.Errorf("the most steps from %d in %+v are %d, want %d", a, c.g, got, c.steps)
			}
		}
	}
	if got := len(impl.FreeCells(longestGrid())); got != longestSteps+1 {
		t.Errorf("the longest path does not visit all %d free cells", got)
	}
}

// notFree has cells of g that are blocked, and elements that are no cells of g.
func notFree(g impl.Grid) []int {
	n := len(g.Cells)
	cells := []int{-1, -2, -g.Wide, -n, n, n + 1, n + g.Wide, 2 * n, math.MinInt, math.MaxInt, 1 << 32}
	for c := range n {
		if g.Cells[c] == '#' {
			cells = append(cells, c)
		}
	}
	return cells
}

func TestStepsFromCellsThatAreNotFree(t *testing.T) {
	for _, g := range append(validGrids(), longestGrid(), gridWith("...", "...", "...")) {
		free := freeCellsOf(g)
		for _, c := range notFree(g) {
			if got := impl.StepsFrom(g, []int{c}); len(got) != 0 {
				t.Errorf("StepsFrom(%+v, %d) = %v, want nil", g, c, got)
			}
			for place := range len(free) + 1 {
				if got := impl.StepsFrom(g, slices.Insert(slices.Clone(free), place, c)); len(got) != 0 {
					t.Errorf("StepsFrom(%+v) of all free cells with %d at %d = %v, want nil", g, c, place, got)
				}
			}
		}
	}
}

func TestStepsToCellsThatAreNotFree(t *testing.T) {
	for _, g := range append(validGrids(), longestGrid(), gridWith("...", "...", "...")) {
		others := append(notFree(g), freeCellsOf(g)...)
		for _, a := range notFree(g) {
			for _, b := range others {
				if there, back := impl.StepsTo(g, a, b), impl.StepsTo(g, b, a); there != -1 || back != -1 {
					t.Errorf("StepsTo(%+v) of %d and %d = %d and %d, want -1", g, a, b, there, back)
				}
				if there, back := impl.WayTo(g, a, b), impl.WayTo(g, b, a); len(there) != 0 || len(back) != 0 {
					t.Errorf("WayTo(%+v) of %d and %d = %v and %v, want nil", g, a, b, there, back)
				}
			}
		}
	}
}

func TestStepsOfInvalidGrids(t *testing.T) {
	for _, g := range invalidGrids() {
		for _, from := range [][]int{nil, {0}, {1}, {-1}, {len(g.Cells)}, {0, 0}} {
			if got := impl.StepsFrom(g, from); len(got) != 0 {
				t.Errorf("StepsFrom(%+v, %v) = %v, want nil", g, from, got)
			}
		}
		for _, a := range []int{-1, 0, 1, len(g.Cells)} {
			for _, b := range []int{-1, 0, 1, len(g.Cells)} {
				if got := impl.StepsTo(g, a, b); got != -1 {
					t.Errorf("StepsTo(%+v, %d, %d) = %d, want -1", g, a, b, got)
				}
				if got := impl.WayTo(g, a, b); len(got) != 0 {
					t.Errorf("WayTo(%+v, %d, %d) = %v, want nil", g, a, b, got)
				}
			}
		}
	}
}

// spoil overwrites a result and the memory behind it.
func spoil(result []int) {
	result = result[:cap(result)]
	for i := range result {
		result[i] = -7
	}
}

func TestStepsAreNew(t *testing.T) {
	for _, g := range []impl.Grid{exampleGrid(), fullGrid(), longestGrid(), gridWith("."), gridWith("...", "...", "...")} {
		free := freeCellsOf(g)
		for _, from := range [][]int{nil, free[:1], free} {
			list := append(make([]int, 0, 100), from...)
			first, second := impl.StepsFrom(g, list), impl.StepsFrom(g, list)
			want := slices.Clone(second)
			spoil(first)
			if !slices.Equal(second, want) || !slices.Equal(impl.StepsFrom(g, from), want) || !slices.Equal(list, from) {
				t.Errorf("StepsFrom(%+v, %v) shares memory with an earlier result or its argument", g, from)
			}
		}
		for _, a := range free {
			for _, b := range free {
				first, second := impl.WayTo(g, a, b), impl.WayTo(g, a, b)
				want := slices.Clone(second)
				spoil(first)
				if !slices.Equal(second, want) || !slices.Equal(impl.WayTo(g, a, b), want) {
					t.Errorf("WayTo(%+v, %d, %d) shares memory with an earlier result", g, a, b)
				}
			}
		}
	}
}

// The list, the capacity behind it, and the grid keep their values, for valid arguments and for invalid ones.
func TestStepsKeepTheirArguments(t *testing.T) {
	for _, g := range append(append(validGrids(), longestGrid()), invalidGrids()...) {
		before := impl.Grid{Wide: g.Wide, High: g.High, Cells: strings.Clone(g.Cells)}
		free := freeCellsOf(g)
		for _, from := range [][]int{nil, free, append(slices.Clone(free), free...), append(slices.Clone(free), -1), {5, 0, 5, 2}} {
			memory := slices.Repeat([]int{99}, len(from)+70)
			copy(memory, from)
			kept := slices.Clone(memory)
			impl.StepsFrom(g, memory[:len(from)])
			if !slices.Equal(memory, kept) {
				t.Errorf("StepsFrom(%+v, %v) changes its list or the memory behind it", g, from)
			}
		}
		for a := -1; a <= len(g.Cells); a++ {
			impl.StepsTo(g, a, 0)
			impl.WayTo(g, a, 0)
		}
		if g != before {
			t.Errorf("the grid %+v became %+v", before, g)
		}
	}
}
