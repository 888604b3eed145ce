package tests

import (
	"math"
	"slices"
	"strings"
	"testing"

	"loop.example/g00961/impl"
)

func rowOfFive() impl.Grid { return gridWith("..#..") }

// checkerGrid has free cells that touch at corners only: those whose column and row have a sum of the given parity.
func checkerGrid(wide int, high int, parity int) impl.Grid {
	cells := make([]byte, wide*high)
	for c := range cells {
		cells[c] = "#."[(c%wide+c/wide+parity+1)%2]
	}
	return impl.Grid{Wide: wide, High: high, Cells: string(cells)}
}

// mixedGrids has grids with components of irregular shapes, from almost free ones to almost blocked ones; they are the same in each run.
func mixedGrids() []impl.Grid {
	var grids []impl.Grid
	state := uint64(5)
	for _, side := range [][2]int{{8, 8}, {8, 5}, {3, 8}, {7, 7}, {8, 2}, {1, 8}} {
		for tenths := 1; tenths <= 9; tenths++ {
			cells := make([]byte, side[0]*side[1])
			for c := range cells {
				state = state*6364136223846793005 + 1442695040888963407
				cells[c] = ".aBcD.eFfA"[state>>33%10]
				if int(state>>43%10) < tenths {
					cells[c] = '#'
				}
			}
			grids = append(grids, impl.Grid{Wide: side[0], High: side[1], Cells: string(cells)})
		}
	}
	return grids
}

// homesGrids has the grids on which all cells and all pairs of cells are checked.
func homesGrids() []impl.Grid {
	grids := append(stepsGrids(), rowOfFive(), turningGrid())
	grids = append(grids, mixedGrids()...)
	for _, parity := range []int{0, 1} {
		grids = append(grids, checkerGrid(8, 8, parity), checkerGrid(7, 7, parity), checkerGrid(8, 3, parity), checkerGrid(1, 8, parity), checkerGrid(8, 1, parity))
	}
	return grids
}

// plainHomes finds the home of each cell without a search: each free cell takes the smallest home beside it until none changes.
func plainHomes(g impl.Grid) []int {
	homes := slices.Repeat([]int{-1}, len(g.Cells))
	for _, c := range freeCellsOf(g) {
		homes[c] = c
	}
	for changed := true; changed; {
		changed = false
		for c := range homes {
			for _, d := range plainAround(g, c) {
				if homes[d] < homes[c] {
					homes[c], changed = homes[d], true
				}
			}
		}
	}
	return homes
}

// plainHomeOf is -1 also for a cell that does not exist.
func plainHomeOf(homes []int, c int) int {
	if c < 0 || c >= len(homes) {
		return -1
	}
	return homes[c]
}

// plainList is what Homes should return: each free cell that is its own home.
func plainList(homes []int) []int {
	var list []int
	for c, home := range homes {
		if home == c {
			list = append(list, c)
		}
	}
	return list
}

func plainCount(homes []int, home int, cells []int) int {
	count := 0
	for _, c := range cells {
		if home >= 0 && plainHomeOf(homes, home) == home && plainHomeOf(homes, c) == home {
			count++
		}
	}
	return count
}

func plainEnough(homes []int, starts []int, goals []int) bool {
	for _, c := range slices.Concat(starts, goals) {
		if plainHomeOf(homes, c) == -1 {
			return false
		}
	}
	for _, home := range plainList(homes) {
		if plainCount(homes, home, goals) > plainCount(homes, home, starts) {
			return false
		}
	}
	return true
}

// listsOf has each list of at most n of the elements, in each order, repeated ones among them.
func listsOf(elements []int, n int) [][]int {
	lists := [][]int{nil}
	longest := lists
	for range n {
		var longer [][]int
		for _, list := range longest {
			for _, e := range elements {
				longer = append(longer, append(slices.Clone(list), e))
			}
		}
		lists = append(lists, longer...)
		longest = longer
	}
	return lists
}

func TestHomesExample(t *testing.T) {
	g := rowOfFive()
	for c, want := range []int{0, 0, -1, 3, 3} {
		if got := impl.HomeOf(g, c); got != want {
			t.Errorf("HomeOf(example, %d) = %d, want %d", c, got, want)
		}
	}
	if got := impl.Homes(g); !slices.Equal(got, []int{0, 3}) {
		t.Errorf("Homes(example) = %v", got)
	}
	if got := impl.CountIn(g, 0, []int{0, 1, 1, 4}); got != 3 {
		t.Errorf("CountIn(example, 0) = %d, want 3", got)
	}
	if got := impl.CountIn(g, 3, []int{0, 1, 1, 4}); got != 1 {
		t.Errorf("CountIn(example, 3) = %d, want 1", got)
	}
	if impl.Enough(g, []int{0}, []int{4}) || !impl.Enough(g, []int{0, 3}, []int{4}) {
		t.Error("Enough of the example")
	}
}

// checkPairs is promise 5: the same home exactly if there is a path, in each direction.
func checkPairs(t *testing.T, g impl.Grid, homes []int) {
	t.Helper()
	free := freeCellsOf(g)
	for _, a := range free {
		for _, b := range free {
			together, reached := homes[a] == homes[b], impl.StepsTo(g, a, b) != -1
			if together != reached {
				t.Errorf("in %+v, the homes of %d and %d are %d and %d, and StepsTo is %d", g, a, b, homes[a], homes[b], impl.StepsTo(g, a, b))
			}
		}
	}
}

// checkCounts checks that each free cell is counted in exactly one component.
func checkCounts(t *testing.T, g impl.Grid, homes []int) {
	t.Helper()
	free := freeCellsOf(g)
	sum := 0
	for _, home := range impl.Homes(g) {
		got := impl.CountIn(g, home, free)
		if got < 1 || got != plainCount(homes, home, free) {
			t.Errorf("CountIn(%+v, %d) of all free cells = %d, want %d", g, home, got, plainCount(homes, home, free))
		}
		sum += got
	}
	if sum != len(free) {
		t.Errorf("the components of %+v have %d cells, and %d are free", g, sum, len(free))
	}
}

// checkHomes checks HomeOf and Homes of all cells, and what must hold for all pairs of free cells.
func checkHomes(t *testing.T, g impl.Grid) {
	t.Helper()
	want := plainHomes(g)
	got := make([]int, len(g.Cells))
	for c := range got {
		got[c] = impl.HomeOf(g, c)
		if got[c] != want[c] || got[c] > c {
			t.Errorf("HomeOf(%+v, %d) = %d, want %d", g, c, got[c], want[c])
		}
	}
	if list := impl.Homes(g); !slices.Equal(list, plainList(want)) {
		t.Errorf("Homes(%+v) = %v, want %v", g, list, plainList(want))
	}
	checkPairs(t, g, got)
	checkCounts(t, g, want)
}

// Promise 5, on all grids and all pairs of cells.
func TestHomesOfAllGrids(t *testing.T) {
	for _, g := range homesGrids() {
		checkHomes(t, g)
	}
}

func TestHomesTables(t *testing.T) {
	n := impl.MaxSide
	cases := []struct {
		name string
		g    impl.Grid
		want []int
	}{
		{"one free cell in all", gridWith("."), []int{0}},
		{"one parking cell in all", gridWith("F"), []int{0}},
		{"one blocked cell in all", gridWith("#"), nil},
		{"no free cells", gridWith("###", "###"), nil},
		{"no free cells of MaxSide by MaxSide", impl.Grid{Wide: n, High: n, Cells: strings.Repeat("#", n*n)}, nil},
		{"one component of MaxSide by MaxSide", impl.Grid{Wide: n, High: n, Cells: strings.Repeat(".", n*n)}, []int{0}},
		{"one component in a single line", longestGrid(), []int{0}},
		{"one component that turns in each row", turningGrid(), []int{0}},
		{"alone in the upper left corner", gridWith(".##", "###", "###"), []int{0}},
		{"alone in the upper right corner", gridWith("##.", "###", "###"), []int{2}},
		{"alone in the lower left corner", gridWith("###", "###", ".##"), []int{6}},
		{"alone in the lower right corner", gridWith("###", "###", "##."), []int{8}},
		{"alone at the upper edge", gridWith("#.#", "###", "###"), []int{1}},
		{"alone at the left edge", gridWith("###", ".##", "###"), []int{3}},
		{"alone at the right edge", gridWith("###", "##.", "###"), []int{5}},
		{"alone at the lower edge", gridWith("###", "###", "#.#"), []int{7}},
		{"alone inside", gridWith("###", "#.#", "###"), []int{4}},
		{"in a corner beside a larger one", gridWith(".#.", "##.", "..."), []int{0, 2}},
		{"in the last corner beside a larger one", gridWith("...", ".##", ".#."), []int{0, 8}},
		{"at an edge beside larger ones", gridWith("..#.#..", "..###.."), []int{0, 3, 5}},
		{"inside a larger one", gridWith(".....", ".###.", ".#.#.", ".###.", "....."), []int{0, 12}},
		{"inside, beside smaller ones in the corners", gridWith(".#.#.", "#...#", ".#.#."), []int{0, 2, 4, 10, 14}},
		{"the smallest cell in a later column", gridWith("#..", "..."), []int{1}},
		{"two columns joined below", gridWith(".#.", ".#.", "..."), []int{0}},
		{"three columns joined below", gridWith(".#.#.", ".#.#.", "....."), []int{0}},
		{"two columns that are not joined", gridWith(".#.", ".#.", ".#."), []int{0, 2}},
		{"two rows that are not joined", gridWith("...", "###", "..."), []int{0, 6}},
		{"one that turns twice", gridWith(".....", "####.", ".....", ".####", "....."), []int{0}},
		{"one that turns around a wall", gridWith("...#.", "##.#.", "...#.", ".###.", "....."), []int{0}},
		{"joined at a corner only", gridWith(".#", "#."), []int{0, 3}},
		{"joined at the other corner only", gridWith("#.", ".#"), []int{1, 2}},
		{"larger ones joined at a corner only", gridWith("..##", "..##", "##..", "##.."), []int{0, 10}},
		{"the end of a row is not joined to the next one", gridWith("##.", ".##"), []int{2, 3}},
		{"zones and parking cells join as other cells", gridWith("aAf", "##F", "b#B"), []int{0, 6}},
		{"a row with blocked ends", gridWith("#..#.#.#"), []int{1, 4, 6}},
		{"a column with blocked ends", gridWith("#", ".", ".", "#", ".", "#", ".", "#"), []int{1, 4, 6}},
	}
	for _, c := range cases {
		checkHomes(t, c.g)
		if got := impl.Homes(c.g); !slices.Equal(got, c.want) {
			t.Errorf("%s: Homes(%+v) = %v, want %v", c.name, c.g, got, c.want)
		}
		for _, home := range c.want {
			if got := impl.HomeOf(c.g, home); got != home {
				t.Errorf("%s: HomeOf(%+v, %d) = %d", c.name, c.g, home, got)
			}
		}
	}
}

// No two cells of different components are adjacent, so a grid has at most as many components as a checkerboard.
func TestHomesAsManyAsPossible(t *testing.T) {
	for wide := 1; wide <= impl.MaxSide; wide++ {
		for high := 1; high <= impl.MaxSide; high++ {
			g := checkerGrid(wide, high, 0)
			free := freeCellsOf(g)
			if len(free) != (wide*high+1)/2 {
				t.Fatalf("%+v has %d free cells", g, len(free))
			}
			checkHomes(t, g)
			if got := impl.Homes(g); !slices.Equal(got, free) {
				t.Errorf("Homes(%+v) = %v, want %v", g, got, free)
			}
			for _, c := range free {
				if home, count := impl.HomeOf(g, c), impl.CountIn(g, c, free); home != c || count != 1 {
					t.Errorf("in %+v, HomeOf %d is %d, and CountIn %d", g, c, home, count)
				}
			}
			if !impl.Enough(g, free, free) || impl.Enough(g, free[1:], free) || !impl.Enough(g, free, free[1:]) {
				t.Errorf("Enough of %+v", g)
			}
		}
	}
}

func TestHomeOfTables(t *testing.T) {
	ring := gridWith(".....", ".###.", ".#.#.", ".###.", ".....")
	columns := gridWith("#.#.#", "#.#.#", "#...#")
	cases := []struct {
		name string
		g    impl.Grid
		c    int
		want int
	}{
		{"inside a ring", ring, 12, 12},
		{"the last cell of a ring", ring, 24, 0},
		{"on the right of the inside of a ring", ring, 14, 0},
		{"between the inside and a ring", ring, 7, -1},
		{"the second column joined below", columns, 3, 1},
		{"the end of the second column joined below", columns, 13, 1},
		{"the smallest of joined columns", columns, 1, 1},
		{"the last cell of columns, blocked", columns, 14, -1},
		{"the first cell of columns, blocked", columns, 0, -1},
		{"the last cell of the example", rowOfFive(), 4, 3},
		{"one past the last cell of the example", rowOfFive(), 5, -1},
		{"-1 in the example", rowOfFive(), -1, -1},
		{"the only cell", gridWith("."), 0, 0},
		{"one past the only cell", gridWith("."), 1, -1},
		{"-1 beside the only cell", gridWith("."), -1, -1},
		{"the only cell, blocked", gridWith("#"), 0, -1},
		{"the last cell of a row", gridWith("........"), 7, 0},
		{"the last cell of a column", gridWith(".", ".", ".", ".", ".", ".", ".", "."), 7, 0},
		{"the last cell of MaxSide by MaxSide", fullGrid(), 63, 0},
		{"one past the last cell of MaxSide by MaxSide", fullGrid(), 64, -1},
		{"one end of the longest line", longestGrid(), longestFrom, 0},
		{"the end of a line that turns in each row", turningGrid(), 56, 0},
		{"the other end of the longest line", longestGrid(), longestTo, 0},
	}
	for _, c := range cases {
		checkHomes(t, c.g)
		if got := impl.HomeOf(c.g, c.c); got != c.want {
			t.Errorf("%s: HomeOf(%+v, %d) = %d, want %d", c.name, c.g, c.c, got, c.want)
		}
	}
}

func TestHomeOfCellsThatAreNotFree(t *testing.T) {
	for _, g := range homesGrids() {
		for _, c := range notFree(g) {
			if got := impl.HomeOf(g, c); got != -1 {
				t.Errorf("HomeOf(%+v, %d) = %d, want -1", g, c, got)
			}
		}
	}
}

func TestCountInTables(t *testing.T) {
	example := rowOfFive()
	block := gridWith("..#.", "####", ".#..")
	cases := []struct {
		name  string
		g     impl.Grid
		home  int
		cells []int
		want  int
	}{
		{"no cells", example, 0, nil, 0},
		{"an empty list", example, 3, []int{}, 0},
		{"all free cells", example, 0, []int{0, 1, 3, 4}, 2},
		{"all free cells, the other home", example, 3, []int{0, 1, 3, 4}, 2},
		{"none of the component", example, 0, []int{3, 4}, 0},
		{"only the home", example, 3, []int{3}, 1},
		{"not the home itself", example, 3, []int{4}, 1},
		{"descending", example, 3, []int{4, 3, 1, 0}, 2},
		{"a repeated cell", example, 0, []int{1, 1, 1}, 3},
		{"repeated cells of both components", example, 3, []int{3, 0, 4, 3, 0, 4, 3, 0}, 5},
		{"a blocked cell in between", example, 0, []int{0, 2, 1}, 2},
		{"only blocked cells", example, 0, []int{2, 2}, 0},
		{"-1", example, 0, []int{-1, 0, -1}, 1},
		{"one past the last cell", example, 3, []int{5, 4, 5}, 1},
		{"elements that do not exist", example, 0, []int{-5, 6, math.MinInt, math.MaxInt, 1, 1 << 32}, 1},
		{"all kinds together", example, 3, []int{-1, 0, 1, 2, 3, 4, 5, 3, 4, 2, -1}, 4},
		{"a free cell that is not the smallest", example, 1, []int{0, 1, 3, 4}, 0},
		{"the last cell, not the smallest", example, 4, []int{0, 1, 3, 4}, 0},
		{"a blocked home", example, 2, []int{0, 1, 2, 2, 3, 4}, 0},
		{"home -1", example, -1, []int{-1, 2, 5, 0}, 0},
		{"home one past the last cell", example, 5, []int{5, 5, 0, 4}, 0},
		{"home far below", example, math.MinInt, []int{math.MinInt, 0}, 0},
		{"home far above", example, math.MaxInt, []int{math.MaxInt, 0}, 0},
		{"a component of one cell", block, 3, []int{3, 3, 0, 8}, 2},
		{"a component of one cell in a corner", block, 8, []int{8, 10, 11, 8}, 2},
		{"the last component", block, 10, []int{8, 10, 11, 8}, 2},
		{"no free cells", gridWith("##"), 0, []int{0, 1}, 0},
		{"no free cells, home -1", gridWith("##"), -1, []int{0, 1, -1}, 0},
		{"one cell of one", gridWith("a"), 0, []int{0, 0, 1, -1}, 2},
		{"a row", gridWith("........"), 0, []int{7, 0, 8}, 2},
		{"a column", gridWith(".", ".", ".", ".", ".", ".", ".", "."), 0, []int{7, 0, 8}, 2},
		{"MaxSide by MaxSide", impl.Grid{Wide: 8, High: 8, Cells: strings.Repeat(".", 64)}, 0, []int{63, 63, 64, 0}, 3},
	}
	for _, c := range cases {
		checkHomes(t, c.g)
		if got := impl.CountIn(c.g, c.home, c.cells); got != c.want {
			t.Errorf("%s: CountIn(%+v, %d, %v) = %d, want %d", c.name, c.g, c.home, c.cells, got, c.want)
		}
	}
}

// Each home from -1 to one past the last cell, with lists that have each cell, some of them more than once, and elements that do not exist.
func TestCountInOfAllGrids(t *testing.T) {
	for _, g := range homesGrids() {
		homes := plainHomes(g)
		var each, uneven []int
		for c := -1; c <= len(homes); c++ {
			each = append(each, c)
			uneven = append(uneven, slices.Repeat([]int{c}, (c+3)%4)...)
		}
		back := slices.Clone(uneven)
		slices.Reverse(back)
		for home := -1; home <= len(homes); home++ {
			for _, cells := range [][]int{nil, each, uneven, back} {
				if got, want := impl.CountIn(g, home, cells), plainCount(homes, home, cells); got != want {
					t.Errorf("CountIn(%+v, %d, %v) = %d, want %d", g, home, cells, got, want)
				}
			}
		}
	}
}

func TestEnoughTables(t *testing.T) {
	example := rowOfFive()
	parts := gridWith("..#.", "###.", ".#..")
	cases := []struct {
		name   string
		g      impl.Grid
		starts []int
		goals  []int
		want   bool
	}{
		{"neither starts nor goals", example, nil, nil, true},
		{"neither, as empty lists", example, []int{}, []int{}, true},
		{"neither in a grid without free cells", gridWith("##", "##"), nil, nil, true},
		{"no starts", example, nil, []int{0}, false},
		{"no starts, the last cell as goal", example, nil, []int{4}, false},
		{"no goals", example, []int{0}, nil, true},
		{"no goals, many starts", example, []int{0, 1, 3, 4}, nil, true},
		{"as many goals", example, []int{0, 1}, []int{0, 1}, true},
		{"as many goals, other cells", example, []int{3}, []int{4}, true},
		{"as many goals in both components", example, []int{0, 1, 3, 4}, []int{4, 3, 1, 0}, true},
		{"one goal more", example, []int{0}, []int{0, 1}, false},
		{"one goal more in the second component", example, []int{0, 1, 3}, []int{0, 3, 4}, false},
		{"one goal less", example, []int{0, 1}, []int{1}, true},
		{"one goal less in the second component", example, []int{0, 1, 3, 4}, []int{0, 1, 4}, true},
		{"enough in all, but not in the first component", example, []int{0, 3, 4}, []int{0, 1}, false},
		{"enough in all, but not in the second component", example, []int{0, 1, 3}, []int{3, 4}, false},
		{"as many in all, but in the other component", example, []int{0, 1}, []int{3, 4}, false},
		{"enough in all, but not in a component of one cell", parts, []int{0, 1, 3, 7, 10, 11}, []int{8}, false},
		{"enough in a component of one cell", parts, []int{8}, []int{8}, true},
		{"enough in each of three components", parts, []int{0, 8, 11}, []int{1, 8, 3}, true},
		{"touching at a corner only", gridWith(".#", "#."), []int{0}, []int{3}, false},
		{"repeated starts count repeatedly", example, []int{0, 0}, []int{0, 1}, true},
		{"repeated goals count repeatedly", example, []int{0}, []int{1, 1}, false},
		{"both repeated", example, []int{4, 4, 4}, []int{3, 3, 3}, true},
		{"both repeated, one goal more", example, []int{4, 4}, []int{3, 3, 3}, false},
		{"repeated starts in the other component", example, []int{0, 0, 0}, []int{3}, false},
		{"a blocked start", example, []int{0, 2}, []int{0}, false},
		{"only a blocked start", example, []int{2}, nil, false},
		{"a blocked goal", example, []int{0, 1}, []int{2}, false},
		{"a blocked start and a blocked goal", example, []int{2}, []int{2}, false},
		{"start -1", example, []int{0, -1}, []int{0}, false},
		{"only start -1", example, []int{-1}, nil, false},
		{"goal -1", example, []int{0}, []int{-1}, false},
		{"start and goal -1", example, []int{-1}, []int{-1}, false},
		{"start one past the last cell", example, []int{5, 4}, []int{4}, false},
		{"only start one past the last cell", example, []int{5}, nil, false},
		{"goal one past the last cell", example, []int{4}, []int{5}, false},
		{"start and goal one past the last cell", example, []int{5}, []int{5}, false},
		{"far outside", example, []int{math.MinInt}, []int{math.MaxInt}, false},
		{"a start of a grid without free cells", gridWith("##", "##"), []int{0}, nil, false},
		{"one cell", gridWith("a"), []int{0}, []int{0}, true},
		{"one cell, twice as goal", gridWith("a"), []int{0}, []int{0, 0}, false},
		{"a row", gridWith("........"), []int{0, 1}, []int{6, 7}, true},
		{"a row, one goal more", gridWith("........"), []int{0}, []int{6, 7}, false},
		{"a column", gridWith(".", ".", ".", ".", ".", ".", ".", "."), []int{0, 1}, []int{6, 7}, true},
		{"a column, one past the last cell", gridWith(".", ".", ".", ".", ".", ".", ".", "."), []int{0, 1}, []int{7, 8}, false},
		{"MaxSide by MaxSide", impl.Grid{Wide: 8, High: 8, Cells: strings.Repeat(".", 64)}, []int{0, 1}, []int{62, 63}, true},
		{"MaxSide by MaxSide, one past the last cell", impl.Grid{Wide: 8, High: 8, Cells: strings.Repeat(".", 64)}, []int{0, 64}, []int{63}, false},
	}
	for _, c := range cases {
		checkHomes(t, c.g)
		if got := impl.Enough(c.g, c.starts, c.goals); got != c.want {
			t.Errorf("%s: Enough(%+v, %v, %v) is %v", c.name, c.g, c.starts, c.goals, got)
		}
	}
}

// Each pair of short lists, with the elements -1 and one past the last cell, on each grid of at most 4 cells, and of lists of up to 3 cells in the example.
func TestEnoughOfAllLists(t *testing.T) {
	for _, g := range append(smallGrids(), rowOfFive()) {
		n := len(g.Cells)
		if n > 4 && g != rowOfFive() {
			continue
		}
		var elements []int
		for c := -1; c <= n; c++ {
			elements = append(elements, c)
		}
		lists := listsOf(elements, 2)
		if n > 4 {
			lists = listsOf([]int{0, 1, 2, 3, 4}, 3)
		}
		homes := plainHomes(g)
		for _, starts := range lists {
			for _, goals := range lists {
				if got := impl.Enough(g, starts, goals); got != plainEnough(homes, starts, goals) {
					t.Errorf("Enough(%+v, %v, %v) is %v", g, starts, goals, got)
				}
			}
		}
	}
}

// In each component in turn: as many goals as starts, one more, and one less, while all others have enough.
func TestEnoughInEachComponent(t *testing.T) {
	for _, g := range homesGrids() {
		homes := plainHomes(g)
		free := freeCellsOf(g)
		if !impl.Enough(g, free, free) || !impl.Enough(g, free, nil) || impl.Enough(g, nil, free) != (len(free) == 0) {
			t.Errorf("Enough(%+v) of all free cells", g)
		}
		for _, home := range plainList(homes) {
			more := append(slices.Clone(free), home)
			if impl.Enough(g, free, more) || !impl.Enough(g, more, free) {
				t.Errorf("Enough(%+v) of all free cells with %d twice", g, home)
			}
			last := home
			for _, c := range free {
				if homes[c] == home {
					last = c
				}
			}
			less := slices.DeleteFunc(slices.Clone(free), func(c int) bool { return c == last })
			if impl.Enough(g, less, free) || !impl.Enough(g, free, less) {
				t.Errorf("Enough(%+v) of all free cells without %d", g, last)
			}
		}
	}
}

func TestEnoughOfCellsThatAreNotFree(t *testing.T) {
	for _, g := range append(validGrids(), longestGrid(), rowOfFive(), checkerGrid(8, 8, 1)) {
		free := freeCellsOf(g)
		for _, c := range notFree(g) {
			for place := range len(free) + 1 {
				list := slices.Insert(slices.Clone(free), place, c)
				if impl.Enough(g, list, free) || impl.Enough(g, free, list) || impl.Enough(g, list, nil) || impl.Enough(g, list, list) {
					t.Errorf("Enough(%+v) of all free cells with %d at %d is true", g, c, place)
				}
			}
		}
	}
}

func TestHomesOfInvalidGrids(t *testing.T) {
	for _, g := range invalidGrids() {
		ends := []int{-1, 0, 1, len(g.Cells) - 1, len(g.Cells)}
		for _, c := range ends {
			if got := impl.HomeOf(g, c); got != -1 {
				t.Errorf("HomeOf(%+v, %d) = %d, want -1", g, c, got)
			}
			for _, cells := range [][]int{nil, {c}, ends} {
				if got := impl.CountIn(g, c, cells); got != 0 {
					t.Errorf("CountIn(%+v, %d, %v) = %d, want 0", g, c, cells, got)
				}
			}
		}
		if got := impl.Homes(g); len(got) != 0 {
			t.Errorf("Homes(%+v) = %v, want nil", g, got)
		}
		for _, list := range listsOf([]int{-1, 0, 1}, 1) {
			if impl.Enough(g, list, list) || impl.Enough(g, list, nil) || impl.Enough(g, nil, list) {
				t.Errorf("Enough(%+v, %v) is true", g, list)
			}
		}
	}
}

func TestHomesAreNew(t *testing.T) {
	for _, g := range append(validGrids(), rowOfFive(), checkerGrid(8, 8, 0), checkerGrid(8, 8, 1), longestGrid()) {
		first, second := impl.Homes(g), impl.Homes(g)
		want := slices.Clone(second)
		spoil(first)
		if !slices.Equal(second, want) || !slices.Equal(impl.Homes(g), want) || !slices.Equal(want, plainList(plainHomes(g))) {
			t.Errorf("Homes(%+v) shares memory with an earlier result", g)
		}
	}
}

// The lists, the capacity behind them, and the grid keep their values, for valid arguments and for invalid ones.
func TestHomesKeepTheirArguments(t *testing.T) {
	for _, g := range append(append(validGrids(), rowOfFive(), checkerGrid(8, 8, 0), longestGrid()), invalidGrids()...) {
		before := impl.Grid{Wide: g.Wide, High: g.High, Cells: strings.Clone(g.Cells)}
		free := freeCellsOf(g)
		for _, list := range [][]int{nil, free, append(slices.Clone(free), free...), append(slices.Clone(free), -1), {5, 0, 5, 2}} {
			memory := slices.Repeat([]int{99}, len(list)+70)
			copy(memory, list)
			kept := slices.Clone(memory)
			other := slices.Clone(memory)
			for _, home := range []int{-1, 0, 3, len(g.Cells)} {
				impl.CountIn(g, home, memory[:len(list)])
				impl.HomeOf(g, home)
			}
			impl.Enough(g, memory[:len(list)], other[:len(list)])
			if !slices.Equal(memory, kept) || !slices.Equal(other, kept) {
				t.Errorf("a list %v of %+v or the memory behind it changed", list, g)
			}
		}
		impl.Homes(g)
		if g != before {
			t.Errorf("the grid %+v became %+v", before, g)
		}
	}
}
