package tests

import (
	"fmt"
	"math"
	"slices"
	"strings"
	"testing"

	"loop.example/g00961/impl"
)

// The bytes that a cell may have, as chapter 2 lists them.
const cellBytes = ".#abcdefABCDEF"

func exampleGrid() impl.Grid { return impl.Grid{Wide: 3, High: 2, Cells: ".#aB.A"} }

func fullGrid() impl.Grid {
	n := impl.MaxSide * impl.MaxSide
	return impl.Grid{Wide: impl.MaxSide, High: impl.MaxSide, Cells: strings.Repeat(cellBytes, n)[:n]}
}

// validGrids has every kind of cell, and grids with the least and the greatest sides.
func validGrids() []impl.Grid {
	grids := []impl.Grid{
		exampleGrid(), fullGrid(),
		{Wide: 1, High: 1, Cells: "."}, {Wide: 1, High: 1, Cells: "#"}, {Wide: 1, High: 1, Cells: "F"},
		{Wide: 2, High: 7, Cells: cellBytes}, {Wide: 7, High: 2, Cells: cellBytes},
		{Wide: impl.MaxSide, High: 1, Cells: "........"}, {Wide: 1, High: impl.MaxSide, Cells: "########"},
	}
	for i := range len(cellBytes) {
		grids = append(grids, impl.Grid{Wide: 1, High: 1, Cells: cellBytes[i : i+1]})
	}
	return grids
}

// invalidGrids has one fault in each grid: a side, the number of cells, or the byte of a cell.
func invalidGrids() []impl.Grid {
	long := impl.MaxSide + 1
	grids := []impl.Grid{
		{},
		{Wide: 0, High: 2, Cells: ""}, {Wide: 3, High: 0, Cells: ""}, {Wide: 0, High: 2, Cells: ".."},
		{Wide: -3, High: 2, Cells: ".#aB.A"}, {Wide: 3, High: -2, Cells: ".#aB.A"}, {Wide: -3, High: -2, Cells: ".#aB.A"},
		{Wide: long, High: 1, Cells: strings.Repeat(".", long)}, {Wide: 1, High: long, Cells: strings.Repeat(".", long)},
		{Wide: long, High: long, Cells: strings.Repeat(".", long*long)},
		{Wide: math.MaxInt, High: math.MaxInt, Cells: "."}, {Wide: math.MinInt, High: 2, Cells: ""}, {Wide: 1 << 32, High: 1 << 32, Cells: ""},
		{Wide: 3, High: 2, Cells: ".#aB."}, {Wide: 3, High: 2, Cells: ".#aB.A."}, {Wide: 3, High: 2, Cells: ""},
		{Wide: 3, High: 2, Cells: ".#a"}, {Wide: 3, High: 2, Cells: ".#aB.A.#a"},
		{Wide: 3, High: 2, Cells: ".#a\nB.A\n"},
		{Wide: 3, High: 2, Cells: "x#aB.A"}, {Wide: 3, High: 2, Cells: ".#aB.x"}, {Wide: 3, High: 2, Cells: ".#é.A"},
	}
	for _, b := range []byte(allBytes()) {
		if strings.IndexByte(cellBytes, b) < 0 {
			grids = append(grids, impl.Grid{Wide: 1, High: 1, Cells: string([]byte{b})})
		}
	}
	return grids
}

func TestGridLimits(t *testing.T) {
	if impl.MaxSide != 8 || impl.Zones != 6 {
		t.Errorf("MaxSide, Zones = %d, %d", impl.MaxSide, impl.Zones)
	}
}

func TestGridOk(t *testing.T) {
	for _, g := range validGrids() {
		if !impl.GridOk(g) {
			t.Errorf("GridOk(%+v) is false", g)
		}
	}
	for _, g := range invalidGrids() {
		if impl.GridOk(g) {
			t.Errorf("GridOk(%+v) is true", g)
		}
	}
}

func TestGridOkSides(t *testing.T) {
	for wide := -1; wide <= impl.MaxSide+2; wide++ {
		for high := -1; high <= impl.MaxSide+2; high++ {
			want := wide >= 1 && wide <= impl.MaxSide && high >= 1 && high <= impl.MaxSide
			if got := impl.GridOk(impl.Grid{Wide: wide, High: high, Cells: strings.Repeat("b", max(0, wide*high))}); got != want {
				t.Errorf("GridOk of %d by %d is %v", wide, high, got)
			}
		}
	}
}

// Each of the 256 bytes, as the first, a middle and the last cell.
func TestGridOkBytes(t *testing.T) {
	for b := range 256 {
		for place := range 6 {
			cells := []byte(".#aB.A")
			cells[place] = byte(b)
			want := strings.IndexByte(cellBytes, byte(b)) >= 0
			if got := impl.GridOk(impl.Grid{Wide: 3, High: 2, Cells: string(cells)}); got != want {
				t.Errorf("GridOk with byte %d at %d is %v", b, place, got)
			}
		}
	}
}

// plainText writes a grid independently of GridText.
func plainText(g impl.Grid) string {
	text := fmt.Sprintf("height %d\nwidth %d\nmap\n", g.High, g.Wide)
	for y := range g.High {
		text += g.Cells[y*g.Wide:(y+1)*g.Wide] + "\n"
	}
	return text
}

func TestGridTextAndBack(t *testing.T) {
	if text, ok := impl.GridText(exampleGrid()); !ok || text != "height 2\nwidth 3\nmap\n.#a\nB.A\n" {
		t.Errorf("GridText of the example = %q, %v", text, ok)
	}
	for _, g := range validGrids() {
		text, ok := impl.GridText(g)
		if !ok || text != plainText(g) {
			t.Errorf("GridText(%+v) = %q, %v; want %q", g, text, ok, plainText(g))
		}
		if back, ok := impl.ReadGrid(text); !ok || back != g {
			t.Errorf("ReadGrid(%q) = %+v, %v; want %+v", text, back, ok, g)
		}
	}
}

func TestGridTextOfInvalid(t *testing.T) {
	for _, g := range invalidGrids() {
		if text, ok := impl.GridText(g); ok || text != "" {
			t.Errorf("GridText(%+v) = %q, %v; want \"\", false", g, text, ok)
		}
	}
}

func TestReadGridRejects(t *testing.T) {
	nine := strings.Repeat(".", 9)
	texts := map[string]string{
		"empty":                     "",
		"one newline":               "\n",
		"newlines":                  "\n\n\n\n\n",
		"no numbers":                "height \nwidth \nmap\n.#a\nB.A\n",
		"first row too long":        "height 2\nwidth 3\nmap\n.#a.\nB.A\n",
		"last row too long":         "height 2\nwidth 3\nmap\n.#a\nB.A.\n",
		"rows too long":             "height 2\nwidth 3\nmap\n.#a.\nB.A.\n",
		"first row too short":       "height 2\nwidth 3\nmap\n.#\nB.A\n",
		"last row too short":        "height 2\nwidth 3\nmap\n.#a\nB.\n",
		"one row longer, one less":  "height 2\nwidth 3\nmap\n.#aB\n.A\n",
		"one row shorter, one more": "height 2\nwidth 3\nmap\n.#\naB.A\n",
		"both rows in one line":     "height 2\nwidth 3\nmap\n.#aB.A\n",
		"rows as columns":           "height 2\nwidth 3\nmap\n.#\naB\n.A\n",
		"numbers exchanged":         "height 3\nwidth 2\nmap\n.#a\nB.A\n",
		"a row too many":            "height 2\nwidth 3\nmap\n.#a\nB.A\n...\n",
		"a row too few":             "height 2\nwidth 3\nmap\n.#a\n",
		"no rows":                   "height 2\nwidth 3\nmap\n",
		"an empty row first":        "height 2\nwidth 3\nmap\n\n.#a\nB.A\n",
		"an empty row between":      "height 2\nwidth 3\nmap\n.#a\n\nB.A\n",
		"an empty row last":         "height 2\nwidth 3\nmap\n.#a\nB.A\n\n",
		"no last newline":           "height 2\nwidth 3\nmap\n.#a\nB.A",
		"no newline behind map":     "height 2\nwidth 3\nmap",
		"a space behind":            "height 2\nwidth 3\nmap\n.#a\nB.A\n ",
		"a cell behind":             "height 2\nwidth 3\nmap\n.#a\nB.A\n.",
		"a zero byte behind":        "height 2\nwidth 3\nmap\n.#a\nB.A\n\x00",
		"a second text behind":      "height 2\nwidth 3\nmap\n.#a\nB.A\nheight 2\nwidth 3\nmap\n.#a\nB.A\n",
		"a byte before":             " height 2\nwidth 3\nmap\n.#a\nB.A\n",
		"a newline before":          "\nheight 2\nwidth 3\nmap\n.#a\nB.A\n",
		"zero before the height":    "height 02\nwidth 3\nmap\n.#a\nB.A\n",
		"zero before the width":     "height 2\nwidth 03\nmap\n.#a\nB.A\n",
		"plus before the height":    "height +2\nwidth 3\nmap\n.#a\nB.A\n",
		"plus before the width":     "height 2\nwidth +3\nmap\n.#a\nB.A\n",
		"minus before the height":   "height -2\nwidth 3\nmap\n.#a\nB.A\n",
		"minus before the width":    "height 2\nwidth -3\nmap\n.#a\nB.A\n",
		"two spaces":                "height  2\nwidth 3\nmap\n.#a\nB.A\n",
		"a space behind a number":   "height 2 \nwidth 3\nmap\n.#a\nB.A\n",
		"hexadecimal":               "height 0x2\nwidth 3\nmap\n.#a\nB.A\n",
		"no digits":                 "height two\nwidth 3\nmap\n.#a\nB.A\n",
		"height above MaxSide":      "height 9\nwidth 1\nmap\n" + strings.Repeat(".\n", 9),
		"width above MaxSide":       "height 1\nwidth 9\nmap\n" + nine + "\n",
		"both above MaxSide":        "height 9\nwidth 9\nmap\n" + strings.Repeat(nine+"\n", 9),
		"height above MaxNumber":    "height 1000000001\nwidth 3\nmap\n.#a\nB.A\n",
		"height of 2 to the 64":     "height 18446744073709551618\nwidth 3\nmap\n.#a\nB.A\n",
		"height 0":                  "height 0\nwidth 3\nmap\n",
		"width 0":                   "height 2\nwidth 0\nmap\n\n\n",
		"both 0":                    "height 0\nwidth 0\nmap\n",
		"width line first":          "width 3\nheight 2\nmap\n.#a\nB.A\n",
		"map line first":            "map\nheight 2\nwidth 3\n.#a\nB.A\n",
		"map line in between":       "height 2\nmap\nwidth 3\n.#a\nB.A\n",
		"map lines last":            "map\n.#a\nB.A\nheight 2\nwidth 3\n",
		"no height line":            "width 3\nmap\n.#a\nB.A\n",
		"no width line":             "height 2\nmap\n.#a\nB.A\n",
		"no map line":               "height 2\nwidth 3\n.#a\nB.A\n",
		"no words":                  "2\n3\nmap\n.#a\nB.A\n",
		"a word twice":              "height height 2\nwidth 3\nmap\n.#a\nB.A\n",
		"capital letters":           "Height 2\nWidth 3\nMap\n.#a\nB.A\n",
		"another word for map":      "height 2\nwidth 3\nmaps\n.#a\nB.A\n",
		"carriage returns":          "height 2\r\nwidth 3\r\nmap\r\n.#a\r\nB.A\r\n",
		"unknown zone":              "height 2\nwidth 3\nmap\n.#g\nB.A\n",
		"unknown parking zone":      "height 2\nwidth 3\nmap\n.#a\nG.A\n",
		"a space as a cell":         "height 2\nwidth 3\nmap\n. a\nB.A\n",
		"a digit as a cell":         "height 2\nwidth 3\nmap\n.#0\nB.A\n",
		"only a map":                ".#a\nB.A\n",
	}
	for name, text := range texts {
		if g, ok := impl.ReadGrid(text); ok || g != (impl.Grid{}) {
			t.Errorf("%s: ReadGrid(%q) = %+v, %v; want the zero Grid, false", name, text, g, ok)
		}
	}
}

// A text with one byte changed, added or left out is accepted only if it is the text of the grid that was read from it.
func TestReadGridOfChangedTexts(t *testing.T) {
	text := plainText(exampleGrid())
	var changed []string
	for i := range len(text) + 1 {
		for _, b := range "\n .#aAfFgG0123489whm\x00" {
			changed = append(changed, text[:i]+string(b)+text[i:])
			if i < len(text) {
				changed = append(changed, text[:i]+string(b)+text[i+1:])
			}
		}
		if i < len(text) {
			changed = append(changed, text[:i]+text[i+1:], text[:i])
		}
	}
	accepted := 0
	for _, c := range changed {
		if c == text {
			continue
		}
		g, ok := impl.ReadGrid(c)
		if !ok && g != (impl.Grid{}) {
			t.Errorf("ReadGrid(%q) = %+v, false", c, g)
		}
		if ok {
			accepted++
			if !impl.GridOk(g) || plainText(g) != c {
				t.Errorf("ReadGrid(%q) = %+v, true", c, g)
			}
		}
	}
	// Each of the 6 cells becomes one of the kinds .#aAfF, which 5 of them have already.
	if accepted != 31 {
		t.Errorf("%d changed texts were accepted, want 31", accepted)
	}
}

func TestCellKinds(t *testing.T) {
	for _, g := range validGrids() {
		var free []int
		parks := map[int][]int{}
		for c := range len(g.Cells) {
			b := g.Cells[c]
			zone, park := strings.IndexByte("abcdef", b), false
			if zone < 0 {
				zone = strings.IndexByte("ABCDEF", b)
				park = zone >= 0
			}
			if b != '#' {
				free = append(free, c)
			}
			if park {
				parks[zone] = append(parks[zone], c)
			}
			if impl.FreeAt(g, c) != (b != '#') || impl.ZoneOf(g, c) != zone || impl.ParkAt(g, c) != park {
				t.Errorf("cell %d (%c) of %+v: %v, %d, %v", c, b, g, impl.FreeAt(g, c), impl.ZoneOf(g, c), impl.ParkAt(g, c))
			}
		}
		if got := impl.FreeCells(g); !slices.Equal(got, free) {
			t.Errorf("FreeCells(%+v) = %v, want %v", g, got, free)
		}
		for zone := -2; zone <= impl.Zones+1; zone++ {
			if got := impl.ParksIn(g, zone); !slices.Equal(got, parks[zone]) {
				t.Errorf("ParksIn(%+v, %d) = %v, want %v", g, zone, got, parks[zone])
			}
		}
	}
}

func TestCellsOfExample(t *testing.T) {
	g := exampleGrid()
	if got := impl.FreeCells(g); !slices.Equal(got, []int{0, 2, 3, 4, 5}) {
		t.Errorf("FreeCells = %v", got)
	}
	for zone, want := range [][]int{{5}, {3}, nil, nil, nil, nil} {
		if got := impl.ParksIn(g, zone); !slices.Equal(got, want) {
			t.Errorf("ParksIn zone %d = %v, want %v", zone, got, want)
		}
	}
	many := impl.Grid{Wide: 4, High: 2, Cells: "AfFA#aFA"}
	if got := impl.ParksIn(many, 0); !slices.Equal(got, []int{0, 3, 7}) {
		t.Errorf("ParksIn zone 0 = %v", got)
	}
	if got := impl.ParksIn(many, impl.Zones-1); !slices.Equal(got, []int{2, 6}) {
		t.Errorf("ParksIn the last zone = %v", got)
	}
}

func TestCellsThatDoNotExist(t *testing.T) {
	for _, g := range []impl.Grid{exampleGrid(), fullGrid(), {Wide: 1, High: 1, Cells: "A"}, {Wide: 2, High: 2, Cells: "AAAA"}} {
		n := len(g.Cells)
		for _, c := range []int{-1, -n, n, n + 1, 2 * n, math.MinInt, math.MaxInt} {
			if impl.FreeAt(g, c) || impl.ZoneOf(g, c) != -1 || impl.ParkAt(g, c) {
				t.Errorf("cell %d of %+v: %v, %d, %v", c, g, impl.FreeAt(g, c), impl.ZoneOf(g, c), impl.ParkAt(g, c))
			}
		}
		for _, zone := range []int{-1, impl.Zones, math.MinInt, math.MaxInt, int('.') - int('A'), int('a') - int('A')} {
			if got := impl.ParksIn(g, zone); len(got) != 0 {
				t.Errorf("ParksIn(%+v, %d) = %v", g, zone, got)
			}
		}
	}
}

func TestCellsOfInvalidGrids(t *testing.T) {
	for _, g := range invalidGrids() {
		for c := -1; c <= len(g.Cells); c++ {
			if impl.FreeAt(g, c) || impl.ZoneOf(g, c) != -1 || impl.ParkAt(g, c) {
				t.Errorf("cell %d of the invalid %+v: %v, %d, %v", c, g, impl.FreeAt(g, c), impl.ZoneOf(g, c), impl.ParkAt(g, c))
			}
		}
		if got := impl.FreeCells(g); got != nil {
			t.Errorf("FreeCells(%+v) = %v, want nil", g, got)
		}
		for zone := -1; zone <= impl.Zones; zone++ {
			if got := impl.ParksIn(g, zone); got != nil {
				t.Errorf("ParksIn(%+v, %d) = %v, want nil", g, zone, got)
			}
		}
		if got := impl.Walled(g, []int{0, 1}); got != g {
			t.Errorf("Walled(%+v) = %+v, want it unchanged", g, got)
		}
	}
}

func TestWalled(t *testing.T) {
	example := exampleGrid()
	cases := []struct {
		cells []int
		want  string
	}{
		{nil, ".#aB.A"},
		{[]int{}, ".#aB.A"},
		{[]int{0, 9}, "##aB.A"},
		{[]int{1}, ".#aB.A"},
		{[]int{1, 1, 2, 2, 2}, ".##B.A"},
		{[]int{5, 0}, "##aB.#"},
		{[]int{-1, 6}, ".#aB.A"},
		{[]int{-6, math.MinInt, math.MaxInt, 7, 3}, ".#a#.A"},
		{[]int{5, 4, 3, 2, 1, 0}, "######"},
	}
	for _, c := range cases {
		got := impl.Walled(example, c.cells)
		if want := (impl.Grid{Wide: 3, High: 2, Cells: c.want}); got != want {
			t.Errorf("Walled(example, %v) = %+v, want %+v", c.cells, got, want)
		}
	}
}

// Promise 2: Walled blocks exactly the given cells.
func TestWalledBlocksExactly(t *testing.T) {
	for _, g := range validGrids() {
		n := len(g.Cells)
		for step := 1; step <= n; step++ {
			var cells []int
			for c := -step; c < n+step; c += step {
				cells = append(cells, c, c)
			}
			got := impl.Walled(g, cells)
			if !impl.GridOk(got) || got.Wide != g.Wide || got.High != g.High {
				t.Fatalf("Walled(%+v, %v) = %+v", g, cells, got)
			}
			for c := range n {
				want := g.Cells[c]
				if slices.Contains(cells, c) {
					want = '#'
				}
				if got.Cells[c] != want {
					t.Errorf("Walled(%+v, %v) has %+v at %d", g, cells, got, c)
				}
			}
		}
	}
}

func TestGridResultsAreNew(t *testing.T) {
	g := fullGrid()
	free, parks := impl.FreeCells(g), impl.ParksIn(g, 0)
	wantFree, wantParks := slices.Clone(free), slices.Clone(parks)
	for _, cells := range [][]int{free[:cap(free)], parks[:cap(parks)]} {
		for i := range cells {
			cells[i] = -7
		}
	}
	if got := impl.FreeCells(g); !slices.Equal(got, wantFree) {
		t.Errorf("FreeCells after a change of the result before = %v, want %v", got, wantFree)
	}
	if got := impl.ParksIn(g, 0); !slices.Equal(got, wantParks) {
		t.Errorf("ParksIn after a change of the result before = %v, want %v", got, wantParks)
	}
}

func TestWalledKeepsItsArguments(t *testing.T) {
	spare := []int{5, 0, 9, -1, 0, 77, 78}
	cells := spare[:5]
	g := exampleGrid()
	impl.Walled(g, cells)
	impl.Walled(impl.Grid{}, cells)
	if !slices.Equal(spare, []int{5, 0, 9, -1, 0, 77, 78}) || g != exampleGrid() {
		t.Errorf("after Walled, the arguments are %v, %+v", spare, g)
	}
}
