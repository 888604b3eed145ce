package tests

import (
	"math"
	"slices"
	"testing"

	"loop.example/g00961/impl"
)

func (a ask) spanLeast() int { return impl.SpanLeast(a.g, a.starts, a.goals) }

func (a ask) movesLeast() int { return impl.MovesLeast(a.g, a.starts, a.goals) }

func (a ask) spanSure() int { return impl.SpanSure(a.g, a.goals) }

// plainBounds finds both bounds of a problem on a valid grid from the distances of all pairs of its cells.
func plainBounds(dist [][]int, a ask) (int, int) {
	if !a.at(0).plainOk() {
		return -1, -1
	}
	span, moves := 0, 0
	for _, goal := range a.goals {
		nearest := math.MaxInt
		for _, start := range a.starts {
			if d := dist[start][goal]; d != -1 {
				nearest = min(nearest, d)
			}
		}
		if nearest == math.MaxInt {
			return -1, -1
		}
		span, moves = max(span, nearest), moves+nearest
	}
	return span, moves
}

// plainSure counts one span for each goal.
func plainSure(g impl.Grid, goals []int) int {
	free := len(freeCellsOf(g))
	if free == 0 {
		return -1
	}
	sure := 0
	for range goals {
		sure += free - 1
	}
	return sure
}

// checkBounds checks all bounds of a problem on a valid grid, and returns the first two. The span of the problem does not matter.
func (a ask) checkBounds(t *testing.T, dist [][]int) (int, int) {
	t.Helper()
	span, moves := plainBounds(dist, a)
	if got := a.spanLeast(); got != span {
		t.Errorf("SpanLeast(%+v) = %d, want %d", a, got, span)
	}
	if got := a.movesLeast(); got != moves {
		t.Errorf("MovesLeast(%+v) = %d, want %d", a, got, moves)
	}
	if a.spanLeast() > a.movesLeast() {
		t.Errorf("SpanLeast(%+v) is %d, and MovesLeast %d", a, a.spanLeast(), a.movesLeast())
	}
	if got, want := a.spanSure(), plainSure(a.g, a.goals); got != want {
		t.Errorf("SpanSure(%+v) = %d, want %d", a, got, want)
	}
	return span, moves
}

// checkNoBounds checks that a problem has no bounds.
func (a ask) checkNoBounds(t *testing.T, name string) {
	t.Helper()
	if span, moves := a.spanLeast(), a.movesLeast(); span != -1 || moves != -1 {
		t.Errorf("%s: SpanLeast and MovesLeast of %+v are %d and %d, want -1", name, a, span, moves)
	}
}

func TestBoundsExample(t *testing.T) {
	a := ask{g: gridWith("...."), starts: []int{0, 1}, goals: []int{2, 3}}
	if got := impl.MovesLeast(a.g, a.starts, a.goals); got != 3 {
		t.Errorf("MovesLeast of the example = %d, want 3", got)
	}
	if got := impl.SpanLeast(a.g, a.starts, a.goals); got != 2 {
		t.Errorf("SpanLeast of the example = %d, want 2", got)
	}
	if got := impl.SpanSure(a.g, a.goals); got != 6 {
		t.Errorf("SpanSure of the example = %d, want 6", got)
	}
}

// boundCase is a problem with bounds that are found by hand.
type boundCase struct {
	name          string
	g             impl.Grid
	starts, goals []int
	span, moves   int
}

func boundCases() []boundCase {
	row, parts, hall := gridWith("........"), gridWith("..#.."), gridWith("......", ".####.", "......")
	lone := gridWith("...", "##.", "...")
	return []boundCase{
		{"one start and one goal", row, []int{0}, []int{7}, 7, 7},
		{"one start and one goal, the other way", row, []int{7}, []int{0}, 7, 7},
		{"one start and one goal, one step", row, []int{3}, []int{4}, 1, 1},
		{"one start that is the goal", row, []int{3}, []int{3}, 0, 0},
		{"a goal that is the first start", row, []int{2, 5, 6}, []int{2}, 0, 0},
		{"a goal that is the middle start", row, []int{2, 5, 6}, []int{5}, 0, 0},
		{"a goal that is the last start", row, []int{2, 5, 6}, []int{6}, 0, 0},
		{"all goals are starts", row, []int{2, 5, 6}, []int{2, 5, 6}, 0, 0},
		{"the first goal is a start", row, []int{2, 4}, []int{2, 6}, 2, 2},
		{"the last goal is a start", row, []int{2, 4}, []int{0, 4}, 2, 2},
		{"the nearest start is the first one", row, []int{2, 6, 7}, []int{0}, 2, 2},
		{"the nearest start is the middle one", row, []int{0, 4, 7}, []int{3}, 1, 1},
		{"the nearest start is the last one", row, []int{0, 1, 5}, []int{7}, 2, 2},
		{"a goal between two starts, equally far", row, []int{1, 5}, []int{3}, 2, 2},
		{"a goal between two starts, nearer to the last one", row, []int{0, 5}, []int{3}, 2, 2},
		{"two goals with different starts", row, []int{0, 7}, []int{1, 4}, 3, 4},
		{"two goals with different starts, the farther one first", row, []int{0, 7}, []int{3, 6}, 3, 4},
		{"three goals with different starts", row, []int{0, 3, 7}, []int{1, 4, 5}, 2, 4},
		{"three goals, the middle one is the farthest", row, []int{0, 1, 7}, []int{2, 4, 6}, 3, 5},
		{"two goals with the same start, the last one", row, []int{0, 1}, []int{4, 7}, 6, 9},
		{"two goals with the same start, the first one", row, []int{6, 7}, []int{0, 3}, 6, 9},
		{"two goals with the same start between them", row, []int{0, 4}, []int{3, 6}, 2, 3},
		{"two goals with the same start, which is one of them", row, []int{0, 4}, []int{4, 5}, 1, 1},
		{"equal numbers of steps", row, []int{1, 5}, []int{2, 6}, 1, 2},
		{"more starts than goals", row, []int{0, 1, 2, 3}, []int{5, 7}, 4, 6},
		{"around a wall", hall, []int{6}, []int{11}, 7, 7},
		{"around a wall, in two directions", hall, []int{0, 12}, []int{5, 17}, 5, 10},
		{"around a wall, one goal for each start", hall, []int{0, 15}, []int{3, 11}, 3, 6},
		{"around a wall, far from the cell on the other side", lone, []int{6}, []int{0}, 6, 6},
		{"around a wall, one start on each side", lone, []int{0, 8}, []int{2, 6}, 2, 4},
		{"cells of zones and parking cells", gridWith("aA.", "F#b"), []int{0, 3}, []int{1, 5}, 3, 4},
		{"goals in both components", parts, []int{0, 3}, []int{1, 4}, 1, 2},
		{"a component without goals", parts, []int{0, 3}, []int{4}, 1, 1},
		{"a component without goals, after the other one", parts, []int{0, 3}, []int{1}, 1, 1},
		{"two starts in a component without goals", parts, []int{0, 1, 4}, []int{3}, 1, 1},
		{"two goals in a component with one start: no plan, but bounds", parts, []int{0, 3}, []int{3, 4}, 1, 1},
		{"two goals in a component with one start, the first one", parts, []int{1, 3}, []int{0, 1}, 1, 1},
		{"one cell", gridWith("."), []int{0}, []int{0}, 0, 0},
		{"one column", gridWith(".", ".", ".", "."), []int{1}, []int{3}, 2, 2},
	}
}

func TestBoundsTables(t *testing.T) {
	for _, c := range boundCases() {
		a := ask{g: c.g, starts: c.starts, goals: c.goals}
		if got := impl.SpanLeast(c.g, c.starts, c.goals); got != c.span {
			t.Errorf("%s: SpanLeast = %d, want %d", c.name, got, c.span)
		}
		if got := impl.MovesLeast(c.g, c.starts, c.goals); got != c.moves {
			t.Errorf("%s: MovesLeast = %d, want %d", c.name, got, c.moves)
		}
		a.checkBounds(t, plainDistances(c.g))
		// Turned by half a turn, the starts and the goals are in the opposite order.
		turned, _ := turnedPlan(a, nil)
		if span, moves := turned.spanLeast(), turned.movesLeast(); span != c.span || moves != c.moves {
			t.Errorf("%s, turned: SpanLeast = %d, want %d, and MovesLeast = %d, want %d", c.name, span, c.span, moves, c.moves)
		}
	}
}

// One goal, or several ones, that no start reaches, in each place of the list.
func TestBoundsUnreachable(t *testing.T) {
	three := gridWith("..#..#..")
	cases := []struct {
		name          string
		g             impl.Grid
		starts, goals []int
		others        []int // the goals that can be reached
	}{
		{"the only goal", three, []int{0}, []int{4}, nil},
		{"the only goal, from several starts", three, []int{0, 1, 6, 7}, []int{4}, nil},
		{"the first goal", three, []int{3, 6, 7}, []int{0, 4, 6}, []int{4, 6}},
		{"a middle goal", three, []int{0, 6, 7}, []int{1, 3, 7}, []int{1, 7}},
		{"the last goal", three, []int{0, 3, 4}, []int{1, 4, 6}, []int{1, 4}},
		{"the first goal, the others are starts", three, []int{3, 6, 7}, []int{1, 3, 6}, []int{3, 6}},
		{"a middle goal, the others are starts", three, []int{0, 1, 6}, []int{0, 4, 6}, []int{0, 6}},
		{"the last goal, the others are starts", three, []int{0, 1, 3}, []int{0, 3, 7}, []int{0, 3}},
		{"the first two goals", three, []int{6, 7}, []int{0, 4}, nil},
		{"all but the last goal", three, []int{4, 6, 7}, []int{0, 1, 3}, []int{3}},
		{"all but the first goal", three, []int{0, 1, 3}, []int{4, 6, 7}, []int{4}},
		{"all goals", three, []int{3, 4}, []int{0, 7}, nil},
		{"a goal past a corner", gridWith(".#", "#."), []int{0}, []int{3}, nil},
		{"a goal past the end of a row", gridWith(".#.", ".#."), []int{0, 3}, []int{2}, nil},
		{"a goal in a closed room", gridWith("#####", "#.#.#", "#####"), []int{6}, []int{8}, nil},
		{"a goal around which all is blocked", gridWith("...#", "..#."), []int{0, 1, 2, 4, 5}, []int{1, 2, 4, 5, 7}, []int{1, 2, 4, 5}},
	}
	for _, c := range cases {
		a := ask{g: c.g, starts: c.starts, goals: c.goals}
		a.checkNoBounds(t, c.name)
		a.checkBounds(t, plainDistances(c.g))
		rest := ask{g: c.g, starts: c.starts, goals: c.others}
		if span, moves := rest.checkBounds(t, plainDistances(c.g)); span == -1 || moves == -1 {
			t.Errorf("%s: the goals %v have no bounds", c.name, c.others)
		}
	}
}

// A problem without goals has the bounds 0, and one that is not valid has none.
func TestBoundsWithoutGoals(t *testing.T) {
	s := numbers(14)
	for _, g := range append(homesGrids(), limitGrids()...) {
		free := freeCellsOf(g)
		for _, goals := range [][]int{nil, {}} {
			if got := impl.SpanSure(g, goals); got != min(0, len(free)-1) {
				t.Errorf("SpanSure(%+v) without goals = %d", g, got)
			}
			for range min(3, len(free)) {
				a := ask{g: g, starts: someOf(&s, free, 1+s.below(min(10, len(free)))), goals: goals}
				if span, moves := a.spanLeast(), a.movesLeast(); span != 0 || moves != 0 {
					t.Errorf("SpanLeast and MovesLeast of %+v = %d and %d, want 0", a, span, moves)
				}
				for _, c := range []int{-1, len(g.Cells), a.starts[0]} {
					ask{g: g, starts: append(slices.Clone(a.starts), c), goals: goals}.checkNoBounds(t, "no goals, a start that may not be the last one")
				}
			}
			ask{g: g, goals: goals}.checkNoBounds(t, "no starts and no goals")
		}
		for c := range len(g.Cells) {
			if g.Cells[c] == '#' {
				ask{g: g, starts: []int{c}}.checkNoBounds(t, "no goals, the start is blocked")
			}
		}
	}
}

// The conditions of AskOk with span 0, each of them alone. A span that is not valid, or has too many layers, is none of them.
func TestBoundsFaults(t *testing.T) {
	faults := append(askFaults(), badAsks()...)
	spans := 0
	for _, c := range faults {
		if c.a.at(0).ok() {
			spans++
			if c.a.spanLeast() == -1 || c.a.movesLeast() == -1 {
				t.Errorf("%s: %+v has no bounds", c.name, c.a)
			}
			continue
		}
		c.a.checkNoBounds(t, c.name)
		if got, want := c.a.spanSure(), plainSure(c.a.g, c.a.goals); impl.GridOk(c.a.g) && got != want {
			t.Errorf("%s: SpanSure(%+v) = %d, want %d", c.name, c.a, got, want)
		}
	}
	if spans != 8 {
		t.Errorf("%d problems are valid with span 0", spans)
	}
}

// One start, or one goal, is added, removed or replaced, so that a valid problem in a row becomes one that is not.
func TestBoundsNearTheFaults(t *testing.T) {
	g := gridWith("....#...", "........")
	cases := []struct {
		name          string
		starts, goals []int
		span, moves   int
	}{
		{"the valid problem", []int{0, 2, 7}, []int{1, 5}, 2, 3},
		{"as many goals as starts", []int{0, 2, 7}, []int{1, 5, 6}, 2, 4},
		{"one goal more than starts", []int{0, 2, 7}, []int{1, 3, 5, 6}, -1, -1},
		{"one start less than goals", []int{0, 7}, []int{1, 5, 6}, -1, -1},
		{"no starts", nil, []int{1, 5}, -1, -1},
		{"starts that descend", []int{2, 0, 7}, []int{1, 5}, -1, -1},
		{"starts that descend at the end", []int{0, 7, 2}, []int{1, 5}, -1, -1},
		{"equal starts", []int{0, 2, 7, 7}, []int{1, 5}, -1, -1},
		{"a blocked start", []int{0, 2, 4, 7}, []int{1, 5}, -1, -1},
		{"a negative start", []int{-1, 0, 2, 7}, []int{1, 5}, -1, -1},
		{"the last cell as a start", []int{0, 2, 7, 15}, []int{1, 5}, 2, 3},
		{"a start at the number of cells", []int{0, 2, 7, 16}, []int{1, 5}, -1, -1},
		{"a start above the number of cells", []int{0, 2, 7, 17}, []int{1, 5}, -1, -1},
		{"goals that descend", []int{0, 2, 7}, []int{5, 1}, -1, -1},
		{"goals that descend at the end", []int{0, 2, 7}, []int{1, 6, 5}, -1, -1},
		{"equal goals", []int{0, 2, 7}, []int{1, 5, 5}, -1, -1},
		{"a blocked goal", []int{0, 2, 7}, []int{1, 4, 5}, -1, -1},
		{"a negative goal", []int{0, 2, 7}, []int{-1, 1, 5}, -1, -1},
		{"the last cell as a goal", []int{0, 2, 7}, []int{1, 5, 15}, 2, 4},
		{"a goal at the number of cells", []int{0, 2, 7}, []int{1, 5, 16}, -1, -1},
		{"a goal above the number of cells", []int{0, 2, 7}, []int{1, 5, 17}, -1, -1},
		{"the least and the greatest start", []int{math.MinInt, 0, math.MaxInt}, []int{1, 5}, -1, -1},
		{"the least and the greatest goal", []int{0, 2, 7}, []int{math.MinInt, 1, math.MaxInt}, -1, -1},
	}
	dist := plainDistances(g)
	for _, c := range cases {
		a := ask{g: g, starts: c.starts, goals: c.goals}
		if span, moves := a.checkBounds(t, dist); span != c.span || moves != c.moves {
			t.Errorf("%s: the bounds are %d and %d, want %d and %d", c.name, span, moves, c.span, c.moves)
		}
		if span, moves := a.spanLeast(), a.movesLeast(); span != c.span || moves != c.moves {
			t.Errorf("%s: SpanLeast and MovesLeast are %d and %d, want %d and %d", c.name, span, moves, c.span, c.moves)
		}
	}
}

func TestBoundsOfInvalidGrids(t *testing.T) {
	for _, g := range invalidGrids() {
		for _, goals := range [][]int{nil, {}, {0}, {-1}, {1, 0}, {0, 1, 2}} {
			for _, starts := range [][]int{nil, {0}, {0, 1}, {0, 1, 2}} {
				ask{g: g, starts: starts, goals: goals}.checkNoBounds(t, "invalid grid")
			}
			if got := impl.SpanSure(g, goals); got != -1 {
				t.Errorf("SpanSure(%+v, %v) = %d, want -1", g, goals, got)
			}
		}
	}
}

// The goals are counted, whatever they are.
func TestSpanSureTables(t *testing.T) {
	many := slices.Repeat([]int{7}, 1000)
	lists := [][]int{
		nil, {}, {0}, {1}, {0, 1}, {1, 0}, {1, 1, 1}, {-1}, {-5, 99}, {math.MinInt, 0, math.MaxInt}, {0, 1, 2, 3},
		cellsFrom(0), append(cellsFrom(0), 10), many,
	}
	cases := []struct {
		name string
		g    impl.Grid
		each int // the span for each goal
	}{
		{"one cell", gridWith("."), 0},
		{"one free cell in a row", gridWith("#.#"), 0},
		{"one free cell, the last one", gridWith("##", "#F"), 0},
		{"one parking cell on the largest grid", impl.Grid{Wide: 8, High: 8, Cells: fullOf('#').Cells[:63] + "a"}, 0},
		{"two free cells", gridWith(".."), 1},
		{"two free cells apart", gridWith(".#."), 1},
		{"three free cells", gridWith(".#a", "F##"), 2},
		{"a row of four", gridWith("...."), 3},
		{"the example of the map", exampleGrid(), 4},
		{"the longest way", longestGrid(), 41},
		{"corners only", checkerGrid(8, 8, 0), 31},
		{"all cells free", fullOf('.'), 63},
		{"all cells in a zone", fullOf('b'), 63},
		{"all cells parking cells", fullOf('C'), 63},
	}
	for _, c := range cases {
		for _, goals := range lists {
			if got := impl.SpanSure(c.g, goals); got != len(goals)*c.each {
				t.Errorf("%s: SpanSure with %d goals = %d, want %d", c.name, len(goals), got, len(goals)*c.each)
			}
		}
	}
	for _, g := range []impl.Grid{gridWith("#"), gridWith("##", "##"), fullOf('#'), {Wide: 1, High: 8, Cells: "########"}} {
		for _, goals := range lists {
			if got := impl.SpanSure(g, goals); got != -1 {
				t.Errorf("SpanSure(%+v) with %d goals = %d, want -1", g, len(goals), got)
			}
			ask{g: g, starts: []int{0}, goals: goals}.checkNoBounds(t, "no free cells")
		}
	}
}

// All lists of cells of small grids, with cells outside of them, as starts and as goals.
func TestBoundsOfAllLists(t *testing.T) {
	bounded, unbounded := 0, 0
	for _, g := range []impl.Grid{gridWith("."), gridWith("#"), gridWith(".."), gridWith("#."), gridWith("..."), gridWith(".", "#", "."), gridWith("##")} {
		var cells []int
		for c := -1; c <= len(g.Cells); c++ {
			cells = append(cells, c)
		}
		dist := plainDistances(g)
		lists := listsOf(cells, 3)
		for _, starts := range lists {
			for _, goals := range lists {
				if span, _ := (ask{g: g, starts: starts, goals: goals}).checkBounds(t, dist); span == -1 {
					unbounded++
				} else {
					bounded++
				}
			}
		}
	}
	// Of 1 free cell, 2 problems; of 2 apart, 2*2+4; of 2, 2*3+4; of 3, 3*4+3*7+8.
	if want := 2 + 0 + 10 + 2 + 41 + 8 + 0; bounded != want || unbounded < 50000 {
		t.Errorf("%d problems have bounds, want %d, and %d have none", bounded, want, unbounded)
	}
}

// All problems on all grids of at most 6 cells.
func TestBoundsOfAllProblems(t *testing.T) {
	bounded, unbounded := 0, 0
	for _, g := range smallGrids() {
		if len(g.Cells) > 6 {
			continue
		}
		dist := plainDistances(g)
		for _, a := range problemsOn(g, len(g.Cells), 0) {
			span, _ := a.checkBounds(t, dist)
			if span == -1 {
				unbounded++
			} else {
				bounded++
			}
			if span == -1 && impl.Enough(g, a.starts, a.goals) {
				t.Errorf("Enough(%+v) is true, and there are no bounds", a)
			}
		}
	}
	if bounded < 40000 || unbounded < 2000 {
		t.Errorf("only %d problems have bounds, and %d have none", bounded, unbounded)
	}
}
