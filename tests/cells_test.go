package tests

import (
	"math"
	"slices"
	"strings"
	"testing"

	"loop.example/g00961/impl"
)

// gridWith is a grid of the given rows.
func gridWith(rows ...string) impl.Grid {
	return impl.Grid{Wide: len(rows[0]), High: len(rows), Cells: strings.Join(rows, "")}
}

// smallGrids has each arrangement of free and blocked cells on each grid of at most 9 cells.
func smallGrids() []impl.Grid {
	var grids []impl.Grid
	for wide := 1; wide <= impl.MaxSide; wide++ {
		for high := 1; high <= impl.MaxSide && wide*high <= 9; high++ {
			for bits := range 1 << (wide * high) {
				cells := make([]byte, wide*high)
				for c := range cells {
					cells[c] = ".#"[bits>>c&1]
				}
				grids = append(grids, impl.Grid{Wide: wide, High: high, Cells: string(cells)})
			}
		}
	}
	return grids
}

// cellsGrids has the grids on which each cell and each pair of cells is checked.
func cellsGrids() []impl.Grid {
	grids := append(validGrids(), smallGrids()...)
	for _, side := range [][2]int{{impl.MaxSide, 1}, {1, impl.MaxSide}, {impl.MaxSide, impl.MaxSide}, {impl.MaxSide, 5}, {5, impl.MaxSide}} {
		n := side[0] * side[1]
		for _, kinds := range []string{".", "#", "a", "F", ".#", "#.", "..#", "b#A", "...#.", cellBytes} {
			grids = append(grids, impl.Grid{Wide: side[0], High: side[1], Cells: strings.Repeat(kinds, n)[:n]})
		}
	}
	return grids
}

// plainAround finds the adjacent cells in the columns and rows of the map, independently of the program.
func plainAround(g impl.Grid, c int) []int {
	if c < 0 || c >= len(g.Cells) || g.Cells[c] == '#' {
		return nil
	}
	var rows []string
	for y := range g.High {
		rows = append(rows, g.Cells[y*g.Wide:(y+1)*g.Wide])
	}
	var around []int
	x, y := c%g.Wide, c/g.Wide
	if y > 0 && rows[y-1][x] != '#' {
		around = append(around, c-g.Wide)
	}
	if x > 0 && rows[y][x-1] != '#' {
		around = append(around, c-1)
	}
	if x < g.Wide-1 && rows[y][x+1] != '#' {
		around = append(around, c+1)
	}
	if y < g.High-1 && rows[y+1][x] != '#' {
		around = append(around, c+g.Wide)
	}
	return around
}

// checkAround compares Around, and checks what must hold for a and all cells b.
func checkAround(t *testing.T, g impl.Grid, a int) {
	t.Helper()
	want := plainAround(g, a)
	if got := impl.Around(g, a); !slices.Equal(got, want) {
		t.Errorf("Around(%+v, %d) = %v, want %v", g, a, got, want)
	}
	for b := -1; b <= len(g.Cells); b++ {
		there, back := impl.Beside(g, a, b), impl.Beside(g, b, a)
		if there != slices.Contains(want, b) {
			t.Errorf("Beside(%+v, %d, %d) is %v", g, a, b, there)
		}
		if there != back {
			t.Errorf("in %+v, Beside of %d and %d is %v, and of %d and %d %v", g, a, b, there, b, a, back)
		}
	}
}

func TestCellsExample(t *testing.T) {
	g := exampleGrid()
	wants := [][]int{{3}, nil, {5}, {0, 4}, {3, 5}, {2, 4}}
	for c, want := range wants {
		if got := impl.Around(g, c); !slices.Equal(got, want) {
			t.Errorf("Around(example, %d) = %v, want %v", c, got, want)
		}
	}
	if got := impl.PairsOf(g); got != 4 {
		t.Errorf("PairsOf(example) = %d, want 4", got)
	}
	if !impl.Beside(g, 2, 5) || !impl.Beside(g, 5, 2) || impl.Beside(g, 0, 1) || impl.Beside(g, 1, 0) || impl.Beside(g, 2, 3) {
		t.Error("Beside of the example")
	}
}

// Promise 3, on all grids: adjacency is the one of the map, and symmetric; each pair is found from both of its cells.
func TestCellsOfAllGrids(t *testing.T) {
	for _, g := range cellsGrids() {
		ends := 0
		for c := -1; c <= len(g.Cells); c++ {
			checkAround(t, g, c)
			ends += len(impl.Around(g, c))
		}
		if got := impl.PairsOf(g); 2*got != ends {
			t.Errorf("PairsOf(%+v) = %d, and all Around together have %d cells", g, got, ends)
		}
	}
}

func TestAroundOrder(t *testing.T) {
	cases := []struct {
		name string
		g    impl.Grid
		c    int
		want []int
	}{
		{"all four", gridWith("...", "...", "..."), 4, []int{1, 3, 5, 7}},
		{"all four of a wide grid", gridWith(".....", ".....", "....."), 7, []int{2, 6, 8, 12}},
		{"all four of a high grid", gridWith("...", "...", "...", "..."), 7, []int{4, 6, 8, 10}},
		{"above blocked", gridWith(".#.", "...", "..."), 4, []int{3, 5, 7}},
		{"left blocked", gridWith("...", "#..", "..."), 4, []int{1, 5, 7}},
		{"right blocked", gridWith("...", "..#", "..."), 4, []int{1, 3, 7}},
		{"below blocked", gridWith("...", "...", ".#."), 4, []int{1, 3, 5}},
		{"above beyond the edge", gridWith("...", "..."), 1, []int{0, 2, 4}},
		{"left beyond the edge", gridWith("..", "..", ".."), 2, []int{0, 3, 4}},
		{"right beyond the edge", gridWith("..", "..", ".."), 3, []int{1, 2, 5}},
		{"below beyond the edge", gridWith("...", "..."), 4, []int{1, 3, 5}},
		{"only above", gridWith("...", "#.#", ".#."), 4, []int{1}},
		{"only left", gridWith(".#.", "..#", ".#."), 4, []int{3}},
		{"only right", gridWith(".#.", "#..", ".#."), 4, []int{5}},
		{"only below", gridWith(".#.", "#.#", "..."), 4, []int{7}},
		{"only the corners", gridWith(".#.", "#.#", ".#."), 4, nil},
		{"a blocked cell", gridWith("...", ".#.", "..."), 4, nil},
		{"zones and parking cells", gridWith("#a#", "FcA", "#f#"), 4, []int{1, 3, 5, 7}},
	}
	for _, c := range cases {
		if got := impl.Around(c.g, c.c); !slices.Equal(got, c.want) {
			t.Errorf("%s: Around(%+v, %d) = %v, want %v", c.name, c.g, c.c, got, c.want)
		}
	}
}

// At the corners and the edges, the cell with the next index lies in another row.
func TestAroundAtTheEdges(t *testing.T) {
	three := gridWith("...", "...", "...")
	wants := [][]int{{1, 3}, {0, 2, 4}, {1, 5}, {0, 4, 6}, {1, 3, 5, 7}, {2, 4, 8}, {3, 7}, {4, 6, 8}, {5, 7}}
	for c, want := range wants {
		if got := impl.Around(three, c); !slices.Equal(got, want) {
			t.Errorf("Around of cell %d of 3 by 3 = %v, want %v", c, got, want)
		}
	}
	n := impl.MaxSide
	full := impl.Grid{Wide: n, High: n, Cells: strings.Repeat(".", n*n)}
	corners := map[int][]int{0: {1, n}, n - 1: {n - 2, 2*n - 1}, n*n - n: {n*n - 2*n, n*n - n + 1}, n*n - 1: {n*n - n - 1, n*n - 2}}
	for c, want := range corners {
		if got := impl.Around(full, c); !slices.Equal(got, want) {
			t.Errorf("Around of the corner %d of MaxSide by MaxSide = %v, want %v", c, got, want)
		}
	}
	for _, g := range []impl.Grid{three, full} {
		for c := g.Wide - 1; c < len(g.Cells)-1; c += g.Wide {
			if impl.Beside(g, c, c+1) || impl.Beside(g, c+1, c) {
				t.Errorf("in %+v, the last cell of a row %d is beside the first one of the next row", g, c)
			}
		}
	}
}

// Each kind of cell, as the cell asked about and as each of its neighbors.
func TestAroundKinds(t *testing.T) {
	for _, b := range []byte(cellBytes) {
		for place := range 9 {
			cells := []byte(".........")
			cells[place] = b
			g := impl.Grid{Wide: 3, High: 3, Cells: string(cells)}
			want := []int{1, 3, 5, 7}
			if b == '#' {
				want = slices.DeleteFunc(want, func(c int) bool { return c == place || place == 4 })
			}
			if got := impl.Around(g, 4); !slices.Equal(got, want) {
				t.Errorf("Around(%+v, 4) = %v, want %v", g, got, want)
			}
		}
	}
}

func TestBesideItself(t *testing.T) {
	for _, g := range cellsGrids() {
		for c := -1; c <= len(g.Cells); c++ {
			if impl.Beside(g, c, c) {
				t.Errorf("cell %d of %+v is beside itself", c, g)
			}
		}
	}
}

func TestPairsOf(t *testing.T) {
	n := impl.MaxSide
	cases := []struct {
		g    impl.Grid
		want int
	}{
		{gridWith("."), 0},
		{gridWith("#"), 0},
		{gridWith("A"), 0},
		{gridWith(".."), 1},
		{gridWith(".", "."), 1},
		{gridWith(".#"), 0},
		{gridWith("#", "."), 0},
		{gridWith("..", ".."), 4},
		{gridWith("aB", "f#"), 2},
		{gridWith(".#", "#."), 0},
		{gridWith("..#.."), 2},
		{gridWith("..", "##", ".."), 2},
		{gridWith("##", "##"), 0},
		{gridWith(strings.Repeat(".", n)), n - 1},
		{gridWith(strings.Split(strings.Repeat(".", n), "")...), n - 1},
		{impl.Grid{Wide: n, High: n, Cells: strings.Repeat(".", n*n)}, 2 * n * (n - 1)},
		{impl.Grid{Wide: n, High: n, Cells: strings.Repeat("#", n*n)}, 0},
		{impl.Grid{Wide: n, High: n, Cells: strings.Repeat(".#.#.#.##.#.#.#.", n/2)}, 0},
	}
	for _, c := range cases {
		if got := impl.PairsOf(c.g); got != c.want {
			t.Errorf("PairsOf(%+v) = %d, want %d", c.g, got, c.want)
		}
	}
}

func TestCellAtAndSpotOf(t *testing.T) {
	for _, g := range append(validGrids(), gridWith("###", "###"), gridWith(".....", "....."), gridWith("..", "..", "..", "..")) {
		next := 0
		for y := range g.High {
			for x := range g.Wide {
				if got := impl.CellAt(g, x, y); got != next {
					t.Errorf("CellAt(%+v, %d, %d) = %d, want %d", g, x, y, got, next)
				}
				if gx, gy := impl.SpotOf(g, next); gx != x || gy != y {
					t.Errorf("SpotOf(%+v, %d) = %d, %d; want %d, %d", g, next, gx, gy, x, y)
				}
				next++
			}
		}
	}
}

func TestSpotsThatDoNotExist(t *testing.T) {
	for _, g := range validGrids() {
		for y := -2; y <= g.High+2; y++ {
			for x := -2; x <= g.Wide+2; x++ {
				inside := x >= 0 && x < g.Wide && y >= 0 && y < g.High
				if got := impl.CellAt(g, x, y); (got != -1) != inside {
					t.Errorf("CellAt(%+v, %d, %d) = %d", g, x, y, got)
				}
			}
		}
		for _, far := range []int{math.MinInt, -len(g.Cells), len(g.Cells) + g.Wide, 1 << 32, math.MaxInt} {
			if a, b, c := impl.CellAt(g, far, 0), impl.CellAt(g, 0, far), impl.CellAt(g, far, far); a != -1 || b != -1 || c != -1 {
				t.Errorf("CellAt(%+v) with %d = %d, %d, %d", g, far, a, b, c)
			}
		}
	}
}

func TestCellsPastTheEnds(t *testing.T) {
	for _, g := range append(validGrids(), gridWith("...", "...", "...")) {
		n := len(g.Cells)
		for _, c := range []int{-1, -g.Wide, -n, n, n + 1, n + g.Wide, 2 * n, math.MinInt, math.MaxInt} {
			if x, y := impl.SpotOf(g, c); x != -1 || y != -1 {
				t.Errorf("SpotOf(%+v, %d) = %d, %d", g, c, x, y)
			}
			if got := impl.Around(g, c); len(got) != 0 {
				t.Errorf("Around(%+v, %d) = %v", g, c, got)
			}
			for d := range n {
				if impl.Beside(g, c, d) || impl.Beside(g, d, c) {
					t.Errorf("in %+v, %d is beside %d", g, c, d)
				}
			}
		}
	}
	g := exampleGrid()
	if x, y := impl.SpotOf(g, 5); x != 2 || y != 1 || impl.CellAt(g, 2, 1) != 5 || !slices.Equal(impl.Around(g, 5), []int{2, 4}) {
		t.Error("the last cell of the example")
	}
}

func TestCellsOfInvalidGridsHaveNoNeighbors(t *testing.T) {
	for _, g := range invalidGrids() {
		for c := -1; c <= len(g.Cells); c++ {
			x, y := impl.SpotOf(g, c)
			if at := impl.CellAt(g, c, 0); x != -1 || y != -1 || at != -1 || impl.CellAt(g, 0, c) != -1 {
				t.Errorf("cell %d of the invalid %+v: SpotOf %d, %d, CellAt %d", c, g, x, y, at)
			}
			if got := impl.Around(g, c); len(got) != 0 {
				t.Errorf("Around(%+v, %d) = %v, want nil", g, c, got)
			}
			if impl.Beside(g, c, c+1) || impl.Beside(g, c, c-1) || impl.Beside(g, c, c) {
				t.Errorf("cell %d of the invalid %+v is beside another", c, g)
			}
		}
		if got := impl.PairsOf(g); got != 0 {
			t.Errorf("PairsOf(%+v) = %d, want 0", g, got)
		}
	}
}

func TestAroundIsNew(t *testing.T) {
	for _, g := range []impl.Grid{exampleGrid(), fullGrid(), gridWith("...", "...", "...")} {
		for c := range len(g.Cells) {
			first, second := impl.Around(g, c), impl.Around(g, c)
			want := slices.Clone(second)
			first = first[:cap(first)]
			for i := range first {
				first[i] = -7
			}
			if !slices.Equal(second, want) || !slices.Equal(impl.Around(g, c), want) {
				t.Errorf("Around(%+v, %d) changes with an earlier result", g, c)
			}
		}
	}
}

// A copy that shares no memory with the grid would show a change of it.
func TestCellsKeepTheGrid(t *testing.T) {
	for _, g := range append(validGrids(), invalidGrids()...) {
		before := impl.Grid{Wide: g.Wide, High: g.High, Cells: strings.Clone(g.Cells)}
		for c := -1; c <= len(g.Cells); c++ {
			impl.CellAt(g, c, c)
			impl.SpotOf(g, c)
			impl.Around(g, c)
			impl.Beside(g, c, c+1)
		}
		impl.PairsOf(g)
		if g != before {
			t.Errorf("the grid %+v became %+v", before, g)
		}
	}
}
