package tests

import (
	"math"
	"slices"
	"testing"

	"loop.example/g00961/impl"
)

// stand is the set of the cells on which robots stand, one bit for each cell.
type stand uint64

func standOn(cells []int) stand {
	var s stand
	for _, c := range cells {
		s |= 1 << c
	}
	return s
}

func (s stand) has(c int) bool { return s>>c&1 == 1 }

func (s stand) cells() []int {
	var cells []int
	for c := range impl.MaxSide * impl.MaxSide {
		if s.has(c) {
			cells = append(cells, c)
		}
	}
	return cells
}

// againstStep reports whether a step from a to b is one against a step that another robot has taken.
func againstStep(from []int, to []int, a int, b int) bool {
	for i := range to {
		if from[i] == b && to[i] == a {
			return true
		}
	}
	return false
}

// eachStep visits all stands that robots on the given cells can have one step later, and the moves by which they do.
// Without swaps, no two robots exchange their cells.
func eachStep(around [][]int, from []int, swaps bool, visit func(s stand, moves int)) {
	var place func(to []int, s stand, moves int)
	place = func(to []int, s stand, moves int) {
		if len(to) == len(from) {
			visit(s, moves)
			return
		}
		c := from[len(to)]
		if !s.has(c) {
			place(append(to, c), s|1<<c, moves)
		}
		for _, d := range around[c] {
			if !s.has(d) && (swaps || !againstStep(from, to, c, d)) {
				place(append(to, d), s|1<<d, moves+1)
			}
		}
	}
	place(make([]int, 0, len(from)), 0, 0)
}

// plainStandsAfter has, for each time up to span, all stands that the robots can have, and the least number of moves before them.
func plainStandsAfter(g impl.Grid, starts []int, span int, swaps bool) []map[stand]int {
	around := make([][]int, len(g.Cells))
	for c := range around {
		around[c] = plainAround(g, c)
	}
	times := []map[stand]int{{standOn(starts): 0}}
	for range span {
		next := map[stand]int{}
		for s, moves := range times[len(times)-1] {
			eachStep(around, s.cells(), swaps, func(to stand, more int) {
				if least, known := next[to]; !known || moves+more < least {
					next[to] = moves + more
				}
			})
		}
		times = append(times, next)
	}
	return times
}

// plainMoves is the least number of moves to a stand with all goals, or -1 if there is no such stand.
func plainMoves(stands map[stand]int, goals []int) int {
	least := math.MaxInt
	for s, moves := range stands {
		if goal := standOn(goals); s&goal == goal {
			least = min(least, moves)
		}
	}
	if least == math.MaxInt {
		return -1
	}
	return least
}

// checkMoves compares the two networks of a problem with the least moves of a search, or -1 if robots cannot do it.
func checkMoves(t *testing.T, a ask, moves int) {
	t.Helper()
	if a.can() != (moves != -1) {
		t.Errorf("CanAt(%+v) is %v, and the least number of moves is %d", a, a.can(), moves)
	}
	for _, strict := range []bool{false, true} {
		n, ok := a.net(strict)
		size, _ := impl.MostFlow(n)
		if !ok || size > len(a.starts) || (size == len(a.starts)) != (moves != -1) {
			t.Errorf("TimeNet(%+v) with strict %v has a flow of size %d, and the least number of moves is %d", a, strict, size, moves)
		}
		if cost := impl.LeastCost(n, len(a.starts)); cost != moves {
			t.Errorf("TimeNet(%+v) with strict %v has the least cost %d, and the least number of moves is %d", a, strict, cost, moves)
		}
	}
}

// checkSearch checks all goals for some starts, at each time up to span, and returns how often robots can and cannot reach the goals.
func checkSearch(t *testing.T, g impl.Grid, starts []int, span int, goalLists [][]int) (int, int) {
	t.Helper()
	can, cannot := 0, 0
	free, strict := plainStandsAfter(g, starts, span, true), plainStandsAfter(g, starts, span, false)
	for _, goals := range goalLists {
		for time := range span + 1 {
			moves := plainMoves(free[time], goals)
			// Robots that exchange their cells could as well stay there, so that swaps are of no use.
			if plainMoves(strict[time], goals) != moves {
				t.Errorf("in %+v, from %v to %v within %d: %d moves with swaps, %d without", g, starts, goals, time, moves, plainMoves(strict[time], goals))
			}
			checkMoves(t, ask{g, starts, goals, time}, moves)
			if moves == -1 {
				cannot++
			} else {
				can++
			}
		}
	}
	return can, cannot
}

// partsOf has all lists of at most the given number of the cells, in ascending order.
func partsOf(cells []int, most int) [][]int {
	lists := [][]int{nil}
	for _, c := range cells {
		for _, list := range lists {
			if len(list) < most {
				lists = append(lists, append(slices.Clone(list), c))
			}
		}
	}
	return lists
}

// Promise 10: all starts and all goals on all grids of at most 5 cells, within more time than each of them takes.
func TestCanAtOfAllProblems(t *testing.T) {
	can, cannot := 0, 0
	for _, g := range smallGrids() {
		if len(g.Cells) > 5 {
			continue
		}
		free := freeCellsOf(g)
		for _, starts := range partsOf(free, len(free)) {
			if len(starts) == 0 {
				continue
			}
			more, fewer := checkSearch(t, g, starts, 5, partsOf(free, len(starts)))
			can, cannot = can+more, cannot+fewer
		}
	}
	if can < 5000 || cannot < 2000 {
		t.Errorf("robots reach their goals in only %d problems, and in %d they do not", can, cannot)
	}
}

// Larger grids, with walls, with some of the starts and goals.
func TestCanAtOfSomeProblems(t *testing.T) {
	grids := []impl.Grid{
		gridWith("...", "...", "..."), gridWith("...", ".#.", "..."), gridWith("#.#", "...", "#.#"), gridWith(".#.", ".#.", "..."),
		gridWith("........"), gridWith("....", "#.#.", "...."), gridWith("..#..", ".....", "..#.."),
		gridWith("##.##", "##.##", ".....", "##.##", "##.##"), gridWith(".#.#.", ".....", ".#.#."),
		gridWith("..##", "..##", "##..", "##.."), gridWith("...#", "##..", "#..#", "..##"), gridWith("aA.", "##B", "c.C"),
	}
	s := numbers(1)
	can, cannot := 0, 0
	for _, g := range grids {
		free := freeCellsOf(g)
		for robots := 1; robots <= 4; robots++ {
			for range 3 {
				starts := someOf(&s, free, robots)
				var goalLists [][]int
				for goals := range robots + 1 {
					goalLists = append(goalLists, someOf(&s, free, goals), someOf(&s, free, goals))
				}
				more, fewer := checkSearch(t, g, starts, min(7, 240/len(free)-1), goalLists)
				can, cannot = can+more, cannot+fewer
			}
		}
	}
	if can < 5000 || cannot < 1000 {
		t.Errorf("robots reach their goals in only %d problems, and in %d they do not", can, cannot)
	}
}

// checkSpans checks that a problem cannot be solved within a span below least, and can be within least and each greater one
// for which AskOk is true; least is impossible if it never can be. It returns the greatest span for which AskOk is true.
func checkSpans(t *testing.T, a ask, least int) int {
	t.Helper()
	span := 0
	for ; a.at(span).ok(); span++ {
		if can := a.at(span).can(); can != (span >= least) {
			t.Errorf("CanAt(%+v) is %v", a.at(span), can)
		}
	}
	return span - 1
}

const impossible = impl.MaxSpan + 1

// aloneSpan is the least span if robots could pass through one another: with a robot for each goal, none of which takes more steps than that.
func aloneSpan(a ask) int {
	dist := plainDistances(a.g)
	var match func(goals []int, used stand) int
	match = func(goals []int, used stand) int {
		if len(goals) == 0 {
			return 0
		}
		least := impossible
		for _, c := range a.starts {
			if d := dist[c][goals[0]]; !used.has(c) && d != -1 {
				least = min(least, max(d, match(goals[1:], used|1<<c)))
			}
		}
		return least
	}
	return match(a.goals, 0)
}

// The least spans of some problems, found by hand: alone is what robots would need that do not hinder one another.
func TestCanAtTables(t *testing.T) {
	cross := gridWith("#.#", "...", "#.#")
	wide := gridWith("##.##", "##.##", ".....", "##.##", "##.##")
	rooms := gridWith("..#..", "..#..", ".....", "..#..", "..#..")
	cases := []struct {
		name          string
		g             impl.Grid
		starts, goals []int
		alone, least  int
	}{
		{"no goals", gridWith("..."), []int{0, 2}, nil, 0, 0},
		{"the goal is a start", gridWith("..."), []int{0, 2}, []int{2}, 0, 0},
		{"all goals are starts", gridWith("..."), []int{0, 2}, []int{0, 2}, 0, 0},
		{"one step", gridWith("..."), []int{0}, []int{1}, 1, 1},
		{"two steps", gridWith("..."), []int{0}, []int{2}, 2, 2},
		{"the nearer robot", gridWith("....."), []int{0, 3}, []int{4}, 1, 1},
		{"all robots one step on", gridWith("....."), []int{0, 1, 2, 3}, []int{1, 2, 3, 4}, 1, 1},
		{"two robots in a row", gridWith("...."), []int{0, 1}, []int{2, 3}, 2, 2},
		{"one robot in the way", gridWith("...."), []int{0, 1}, []int{3}, 2, 2},
		{"all cells are occupied", gridWith("..", ".."), []int{0, 1, 2, 3}, []int{1, 2}, 0, 0},
		{"around a wall", gridWith("...", ".#.", "###"), []int{3}, []int{5}, 4, 4},
		{"another component", gridWith(".#."), []int{0}, []int{2}, impossible, impossible},
		{"two goals in a component with one start", gridWith("..#.."), []int{0, 3}, []int{3, 4}, impossible, impossible},
		{"goals in both components", gridWith("..#.."), []int{0, 3}, []int{1, 4}, 1, 1},
		{"two robots through the middle", cross, []int{1, 3}, []int{5, 7}, 2, 3},
		{"two robots through the middle, one in it", cross, []int{1, 4}, []int{5, 7}, 2, 2},
		{"two robots through the middle, from longer arms", wide, []int{2, 10}, []int{14, 22}, 4, 5},
		{"four robots through the middle", wide, []int{2, 7, 10, 11}, []int{13, 14, 17, 22}, 3, 5},
		{"four robots through the middle, the other way", wide, []int{13, 14, 17, 22}, []int{2, 7, 10, 11}, 3, 5},
		{"two robots through the middle, two others stay", wide, []int{2, 7, 10, 11}, []int{2, 10, 13, 17}, 2, 3},
		{"a door between two rooms", rooms, []int{0, 1, 5, 6}, []int{18, 19, 23, 24}, 6, 7},
	}
	for _, c := range cases {
		a := ask{g: c.g, starts: c.starts, goals: c.goals}
		if alone := aloneSpan(a); alone != c.alone {
			t.Errorf("%s: the robots alone would need %d, not %d", c.name, alone, c.alone)
		}
		checkSpans(t, a, c.least)
	}
}

// limitGrids has grids with the most free cells that a span allows, in rows of MaxSide or spread over MaxSide rows.
func limitGrids() []impl.Grid {
	grids := []impl.Grid{turningGrid(), checkerGrid(8, 8, 0), longestGrid(), gridWith("........", "#######.", "........", "..######")}
	for _, free := range []int{64, 60, 48, 40, 34, 30, 26, 24, 21, 20, 18, 17, 16, 15, 14, 13, 12, 11, 10} {
		grids = append(grids, gridOf(free))
	}
	return append(grids,
		gridWith(".......#", "######.#", "######..", "#######."),
		gridWith("###.####", "###.####", "########", "...##...", "########", "########", "###.####", "###..###"),
		gridWith("########", "#.#.#.##", "##.#.#.#", "#.#.#.##", "##.#####", "########", "########", "#######."),
	)
}

// checkLimit checks both networks and CanAt of a problem, and tells whether robots can do it.
func checkLimit(t *testing.T, a ask) bool {
	t.Helper()
	checkTimeNets(t, a)
	want := plainSize(a.plainNet(false), plainMost(a.plainNet(false)))
	if a.can() != (want == len(a.starts)) {
		t.Errorf("CanAt(%+v) is %v, and the greatest flow has size %d", a, a.can(), want)
	}
	strict, _ := a.net(true)
	if size, _ := impl.MostFlow(strict); (size == len(a.starts)) != a.can() {
		t.Errorf("TimeNet(%+v) with strict has a flow of size %d", a, size)
	}
	return a.can()
}

// MaxRobots starts, with the greatest span that the free cells allow, without goals, with some and with as many as starts.
func TestTimeAtTheLimits(t *testing.T) {
	can, cannot, layers := 0, 0, 0
	for _, g := range limitGrids() {
		free := freeCellsOf(g)
		span := min(impl.MaxSpan, impl.MaxLayers/len(free)-1)
		first, last := free[:impl.MaxRobots], free[len(free)-impl.MaxRobots:]
		for _, goals := range [][]int{nil, first, last[9:], last[5:], last, free[len(free)/2:][:5]} {
			for _, starts := range [][]int{first, last} {
				a := ask{g, starts, goals, span}
				if checkLimit(t, a) {
					can++
				} else {
					cannot++
				}
				if len(free)*(span+1) == impl.MaxLayers {
					layers++
				}
				for below := range span {
					if a.at(below).can() && !a.at(below+1).can() {
						t.Errorf("CanAt(%+v) is true, and with the next span it is false", a.at(below))
					}
				}
				checkNoAsk(t, "more than the limit", a.at(span+1))
			}
		}
	}
	if can < 200 || cannot < 30 || layers < 100 {
		t.Errorf("%d problems at the limits can be solved and %d cannot, and %d of them have MaxLayers layers", can, cannot, layers)
	}
}

// cellsFrom has as many cells in succession as there can be robots.
func cellsFrom(first int) []int {
	var cells []int
	for c := range impl.MaxRobots {
		cells = append(cells, first+c)
	}
	return cells
}

// onLine has MaxRobots cells in succession on the way from a to b, in ascending order.
func onLine(g impl.Grid, a int, b int, first int) []int {
	return slices.Sorted(slices.Values(impl.WayTo(g, a, b)[first:][:impl.MaxRobots]))
}

// Problems whose least span is found by hand, up to the greatest span for which AskOk is true.
func TestCanAtTheLimits(t *testing.T) {
	line := gridWith("........", "#######.", "........", ".#######", "..######")
	short := gridWith("........", "#######.", "#####...")
	shortest := gridWith("........", "#######.", "######..")
	apart, lone := gridWith(".#.#.#.#", "#.#.#.#.", ".#.#.###"), []int{0, 2, 4, 6, 9, 11, 13, 15, 16, 18}
	cases := []struct {
		name           string
		g              impl.Grid
		starts, goals  []int
		least, longest int
	}{
		{"64 free cells, two rows down", fullOf('.'), cellsFrom(0), cellsFrom(16), 2, 2},
		{"64 free cells, three rows down", fullOf('.'), cellsFrom(0), cellsFrom(24), impossible, 2},
		{"60 free cells, three rows down", gridOf(60), cellsFrom(0), cellsFrom(24), 3, 3},
		{"48 free cells, four rows down", gridOf(48), cellsFrom(0), cellsFrom(32), 4, 4},
		{"40 free cells, two rows up", gridOf(40), cellsFrom(16), cellsFrom(0), 2, 5},
		{"40 free cells, no goals", gridOf(40), cellsFrom(16), nil, 0, 5},
		{"20 cells in a line, ten steps", line, onLine(line, 0, 33, 0), onLine(line, 0, 33, 10), 10, 11},
		{"20 cells in a line, ten steps back", line, onLine(line, 0, 33, 10), onLine(line, 0, 33, 0), 10, 11},
		{"20 cells in a line, one step", line, onLine(line, 0, 33, 4), onLine(line, 0, 33, 5), 1, 11},
		{"12 cells in a line, two steps", short, onLine(short, 0, 21, 0), onLine(short, 0, 21, 2), 2, 19},
		{"11 cells in a line, one robot, ten steps", shortest, []int{0}, []int{22}, 10, impl.MaxSpan},
		{"11 cells in a line, all robots one step", shortest, onLine(shortest, 0, 22, 1), onLine(shortest, 0, 22, 0), 1, impl.MaxSpan},
		{"10 cells, all of them starts", gridOf(10), cellsFrom(0), cellsFrom(0), 0, impl.MaxSpan},
		{"11 cells without neighbors, the starts are the goals", apart, lone, lone, 0, impl.MaxSpan},
		{"11 cells without neighbors, the goal is no start", apart, lone, []int{20}, impossible, impl.MaxSpan},
	}
	for _, c := range cases {
		if longest := checkSpans(t, ask{g: c.g, starts: c.starts, goals: c.goals}, c.least); longest != c.longest {
			t.Errorf("%s: AskOk is true up to the span %d, want %d", c.name, longest, c.longest)
		}
	}
}
