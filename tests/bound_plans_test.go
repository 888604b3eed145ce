package tests

import (
	"slices"
	"strings"
	"testing"

	"loop.example/g00961/impl"
)

// boundCount counts plans by how far they are above their bounds.
type boundCount struct{ plans, spans, moves, above int }

// checkNotBelow checks a plan against the bounds if PlanFault finds no fault in it, and tells whether it finds none.
func (count *boundCount) checkNotBelow(t *testing.T, a ask, p impl.Plan) bool {
	t.Helper()
	if a.fault(p) != 0 {
		return false
	}
	span, moves := a.spanLeast(), a.movesLeast()
	if span < 0 || moves < 0 || p.Span < span || p.Moves < moves || span > moves {
		t.Errorf("the plan %+v of %+v is below its bounds %d and %d", p, a, span, moves)
	}
	count.plans++
	if p.Span == span {
		count.spans++
	}
	if p.Moves == moves {
		count.moves++
	}
	if p.Span > span && p.Moves > moves {
		count.above++
	}
	return true
}

// checkReached is true if there are enough plans, enough of them at a bound, and enough above both.
func (count *boundCount) checkReached(t *testing.T, least int) {
	t.Helper()
	if count.plans < 4*least || count.spans < least || count.moves < least || count.above < least {
		t.Errorf("%+v: there are too few plans of a kind", *count)
	}
}

// Promise 14: all plans of robots on small grids, with walls too, and all goals that they reach.
func TestNoPlanBelowItsBounds(t *testing.T) {
	var count boundCount
	for _, c := range []struct {
		g            impl.Grid
		robots, span int
	}{
		{gridWith("."), 1, 4}, {gridWith(".."), 2, 5}, {gridWith("..."), 2, 4}, {gridWith("..."), 3, 3}, {gridWith("....."), 2, 3}, {gridWith("....."), 1, 6}, {gridWith("......"), 3, 2},
		{gridWith("..", "#."), 3, 3}, {gridWith("..", "#.", ".."), 2, 3}, {gridWith("...", "##.", "..."), 1, 6}, {gridWith(".#.", "..."), 2, 4}, {gridWith("..#.."), 3, 3},
		{gridWith("#.#", "...", "#.#"), 2, 3}, {gridWith("...", ".#.", "..."), 2, 3}, {gridWith("..", ".."), 3, 3}, {gridWith("...", "..."), 4, 1},
	} {
		for _, starts := range partsOf(freeCellsOf(c.g), c.robots) {
			if len(starts) == 0 {
				continue
			}
			a := ask{c.g, starts, nil, c.span}
			eachWays(a, func(ways []impl.Way) {
				p := a.planOf(ways)
				for _, goals := range partsOf(plainEndsOf(ways), len(ways)) {
					count.checkNotBelow(t, ask{c.g, starts, goals, c.span}, p)
				}
			})
		}
	}
	count.checkReached(t, 8000)
}

// Plans whose paths are chosen at random, on grids of all sizes, with some of their ends as goals.
func TestNoWanderingBelowItsBounds(t *testing.T) {
	s := numbers(1414)
	var count boundCount
	for _, g := range slices.Concat(wayGrids(), limitGrids(), mixedGrids()) {
		for _, a := range asksOn(&s, g, 0, 1, 2, 3, 5, 8, 11, 20) {
			ways, _ := impl.Uncrossed(wander(&s, a))
			for range 4 {
				a.goals = someOf(&s, plainEndsOf(ways), s.below(len(ways)+1))
				if !count.checkNotBelow(t, a, a.planOf(ways)) {
					t.Errorf("%v of %+v is no plan", ways, a)
				}
			}
		}
	}
	count.checkReached(t, 250)
}

// The plans of a flow of Cheapest, which have the fewest moves within their span, and no plan within a span below SpanLeast.
func TestNoCheapPlanBelowItsBounds(t *testing.T) {
	s := numbers(141414)
	var count boundCount
	below := 0
	for _, g := range append(wayGrids(), limitGrids()...) {
		for _, a := range asksOn(&s, g, 0, 1, 2, 4, 7, 11, 15, 20) {
			net, _ := a.net(false)
			flow, cost, ok := impl.Cheapest(net, len(a.starts))
			if least := a.spanLeast(); a.span < least || least == -1 {
				below++
				if ok {
					t.Errorf("Cheapest finds a plan for %+v with the cost %d, and SpanLeast is %d", a, cost, least)
				}
			}
			if ok {
				ways, _ := a.waysOf(flow)
				if !count.checkNotBelow(t, a, impl.Plan{Span: a.span, Moves: cost, Ways: ways}) {
					t.Errorf("%v of %+v is no plan", ways, a)
				}
			}
		}
	}
	count.checkReached(t, 100)
	if below < 150 {
		t.Errorf("only %d problems have a span below SpanLeast", below)
	}
}

// checkSearchBounds follows all stands of the robots of a problem through each span up to SpanSure.
// It returns the least span in which they reach the goals, or -1, and the least number of moves within SpanSure.
func checkSearchBounds(t *testing.T, a ask, stands []map[stand]int) (int, int) {
	t.Helper()
	span, moves := a.spanLeast(), a.movesLeast()
	first, fewest := -1, -1
	for time := range a.spanSure() + 1 {
		least := plainMoves(stands[time], a.goals)
		if least != -1 && first == -1 {
			first = time
		}
		if least != -1 && (time < span || least < moves || span == -1) {
			t.Errorf("robots reach the goals of %+v within %d by %d moves, and the bounds are %d and %d", a, time, least, span, moves)
		}
		fewest = least
	}
	if enough := impl.Enough(a.g, a.starts, a.goals); enough != (first != -1) {
		t.Errorf("robots reach the goals of %+v within %d, and Enough is %v: SpanSure is %d", a, first, enough, a.spanSure())
	}
	return first, fewest
}

// All problems on small grids: within SpanSure, robots reach the goals exactly if Enough is true, and never below the bounds.
func TestBoundsOfAllStands(t *testing.T) {
	spans, moves, more, never := 0, 0, 0, 0
	grids := slices.DeleteFunc(smallGrids(), func(g impl.Grid) bool { return len(g.Cells) > 5 })
	for _, g := range append(grids, gridWith("..", "#.", ".."), gridWith("...", "..."), gridWith("#.#", "...", "#.#"), gridWith(".#.", "...")) {
		free := freeCellsOf(g)
		for _, starts := range partsOf(free, min(5, len(free))) {
			if len(starts) == 0 {
				continue
			}
			stands := plainStandsAfter(g, starts, len(starts)*(len(free)-1), false)
			for _, goals := range partsOf(free, len(starts)) {
				a := ask{g: g, starts: starts, goals: goals}
				first, fewest := checkSearchBounds(t, a, stands)
				switch {
				case first == -1:
					never++
				case first > a.spanLeast() || fewest > a.movesLeast():
					more++
				}
				if first != -1 && first == a.spanLeast() {
					spans++
				}
				if first != -1 && fewest == a.movesLeast() {
					moves++
				}
			}
		}
	}
	if spans < 5000 || moves < 4000 || more < 1000 || never < 400 {
		t.Errorf("in only %d problems the least span is the bound, in %d the fewest moves are, in %d they are more, and %d have no plan", spans, moves, more, never)
	}
}

// Within SpanSure, or a greater span for which AskOk is true, a plan exists if Enough is true.
func TestSpanSureIsEnough(t *testing.T) {
	s := numbers(41)
	can, cannot := 0, 0
	for _, g := range slices.Concat(mixedGrids(), smallGrids(), limitGrids()) {
		free := freeCellsOf(g)
		if len(g.Cells) < 5 || len(free) == 0 {
			continue
		}
		for range 3 {
			a := ask{g: g, starts: someOf(&s, free, 1+s.below(min(10, len(free))))}
			a.goals = someOf(&s, free, s.below(min(4, len(a.starts)+1)))
			if a = a.at(a.spanSure()); !a.ok() {
				continue
			}
			enough := impl.Enough(g, a.starts, a.goals)
			if a.can() != enough {
				t.Errorf("CanAt(%+v) within SpanSure is %v, and Enough is %v", a, a.can(), enough)
			}
			if enough {
				can++
			} else {
				cannot++
			}
			if enough && a.span < a.spanLeast() {
				t.Errorf("SpanSure(%+v) is less than SpanLeast, which is %d", a, a.spanLeast())
			}
		}
	}
	if can < 1000 || cannot < 200 {
		t.Errorf("only %d problems have a plan, and %d have none", can, cannot)
	}
}

// checkParts checks how the bounds of a problem follow from those with one of its goals, and these from those with one of its starts.
// It tells whether there are any.
func checkParts(t *testing.T, a ask) bool {
	t.Helper()
	span, moves, reached := 0, 0, true
	for _, goal := range a.goals {
		one := ask{g: a.g, starts: a.starts, goals: []int{goal}}
		steps, nearest := one.spanLeast(), -1
		if one.movesLeast() != steps {
			t.Errorf("SpanLeast and MovesLeast of %+v are %d and %d", one, steps, one.movesLeast())
		}
		for _, start := range a.starts {
			if d := (ask{g: a.g, starts: []int{start}, goals: []int{goal}}).spanLeast(); d != impl.StepsTo(a.g, start, goal) {
				t.Errorf("SpanLeast from %d to %d in %+v is %d", start, goal, a.g, d)
			} else if d != -1 && (nearest == -1 || d < nearest) {
				nearest = d
			}
		}
		if steps != nearest {
			t.Errorf("SpanLeast of %+v is %d, and the nearest start has %d steps", one, steps, nearest)
		}
		span, moves, reached = max(span, steps), moves+steps, reached && steps != -1
	}
	if !reached {
		span, moves = -1, -1
	}
	if a.spanLeast() != span || a.movesLeast() != moves {
		t.Errorf("SpanLeast and MovesLeast of %+v are %d and %d, and by its goals %d and %d", a, a.spanLeast(), a.movesLeast(), span, moves)
	}
	return reached
}

// Problems chosen at random on grids of all sizes, with up to MaxRobots starts.
func TestBoundsOfSomeProblems(t *testing.T) {
	s := numbers(1441)
	bounded, unbounded := 0, 0
	for _, g := range slices.Concat(wayGrids(), limitGrids(), homesGrids()[len(stepsGrids()):]) {
		dist := plainDistances(g)
		for _, a := range asksOn(&s, g, 0, 0, 0, 0) {
			a.checkBounds(t, dist)
			if checkParts(t, a) {
				bounded++
			} else {
				unbounded++
			}
			ask{g: g, starts: a.goals, goals: a.starts}.checkBounds(t, dist)
		}
	}
	if bounded < 1000 || unbounded < 250 {
		t.Errorf("only %d problems have bounds, and %d have none", bounded, unbounded)
	}
}

// MaxRobots starts and goals on the largest grids, and on lines of cells, with bounds found by hand.
func TestBoundsAtTheLimits(t *testing.T) {
	full, line, turning := fullOf('.'), longestGrid(), turningGrid()
	lone := freeCellsOf(checkerGrid(8, 8, 0))
	head, tail := onLine(line, longestFrom, longestTo, 0), onLine(line, longestFrom, longestTo, 32)
	first, last := onLine(turning, 0, 56, 0), onLine(turning, 0, 56, 26)
	cases := []struct {
		name          string
		g             impl.Grid
		starts, goals []int
		span, moves   int
		sure          int
	}{
		{"64 free cells, from corner to corner", full, []int{0}, []int{63}, 14, 14, 63},
		{"64 free cells, from corner to corner, the other way", full, []int{63}, []int{0}, 14, 14, 63},
		{"64 free cells, across to the other corners", full, []int{7}, []int{56}, 14, 14, 63},
		{"64 free cells, from the first ten to the last ten", full, cellsFrom(0), cellsFrom(54), 7, 66, 630},
		{"64 free cells, from the last ten to the first ten", full, cellsFrom(54), cellsFrom(0), 7, 66, 630},
		{"64 free cells, a row down", full, cellsFrom(0), cellsFrom(8), 1, 8, 630},
		{"64 free cells, the starts are the goals", full, cellsFrom(27), cellsFrom(27), 0, 0, 630},
		{"64 free cells, ten starts and no goals", full, cellsFrom(27), nil, 0, 0, 0},
		{"64 free cells, one of ten starts is near", full, []int{0, 1, 2, 3, 4, 5, 6, 8, 9, 62}, []int{63}, 1, 1, 63},
		{"64 parking cells, from the first ten to the last ten", fullOf('A'), cellsFrom(0), cellsFrom(54), 7, 66, 630},
		{"the longest way", line, []int{longestFrom}, []int{longestTo}, longestSteps, longestSteps, 41},
		{"the longest way, the other way", line, []int{longestTo}, []int{longestFrom}, longestSteps, longestSteps, 41},
		{"the longest way, from its first ten cells to its last ten", line, head, tail, 32, 275, 410},
		{"the longest way, from its last ten cells to its first ten", line, tail, head, 32, 275, 410},
		{"rows in turn", turning, []int{0}, []int{56}, 35, 35, 35},
		{"rows in turn, from the first ten cells to the last ten", turning, first, last, 26, 215, 350},
		{"rows in turn, from the last ten cells to the first ten", turning, last, first, 26, 215, 350},
		{"cells without neighbors, the starts are the goals", checkerGrid(8, 8, 0), lone[:10], lone[:10], 0, 0, 310},
		{"cells without neighbors, all but one goal are starts", checkerGrid(8, 8, 0), lone[:10], lone[1:11], -1, -1, 310},
	}
	for _, c := range cases {
		a := ask{g: c.g, starts: c.starts, goals: c.goals}
		span, moves := a.checkBounds(t, plainDistances(c.g))
		if span != c.span || moves != c.moves || a.spanLeast() != c.span || a.movesLeast() != c.moves {
			t.Errorf("%s: SpanLeast and MovesLeast are %d and %d, want %d and %d", c.name, a.spanLeast(), a.movesLeast(), c.span, c.moves)
		}
		if got := impl.SpanSure(c.g, c.goals); got != c.sure {
			t.Errorf("%s: SpanSure = %d, want %d", c.name, got, c.sure)
		}
		free := freeCellsOf(c.g)
		ask{g: c.g, starts: free[:impl.MaxRobots+1], goals: c.goals}.checkNoBounds(t, c.name+", MaxRobots+1 starts")
		ask{g: c.g, starts: free[:impl.MaxRobots], goals: free[:impl.MaxRobots+1]}.checkNoBounds(t, c.name+", MaxRobots+1 goals")
		ask{g: c.g, starts: free, goals: free}.checkNoBounds(t, c.name+", all cells")
	}
}

// checkBoundsKept checks that the functions leave the lists, the memory behind them, and the grid as they are, and that a call
// has the same results as the one before it.
func checkBoundsKept(t *testing.T, a ask) {
	t.Helper()
	before := impl.Grid{Wide: a.g.Wide, High: a.g.High, Cells: strings.Clone(a.g.Cells)}
	starts, goals := withRoomBehind(a.starts, 30, 1), withRoomBehind(a.goals, 30, 1)
	keptStarts, keptGoals := slices.Clone(starts), slices.Clone(goals)
	b := ask{g: a.g, starts: starts[:len(a.starts)], goals: goals[:len(a.goals)]}
	results := [3]int{b.spanLeast(), b.movesLeast(), b.spanSure()}
	if again := [3]int{b.spanLeast(), b.movesLeast(), b.spanSure()}; again != results {
		t.Errorf("the bounds of %+v were %v and are %v", a, results, again)
	}
	if !slices.Equal(starts, keptStarts) || !slices.Equal(goals, keptGoals) {
		t.Errorf("a list of %+v or the memory behind it changed", a)
	}
	if a.g != before || b.g != before {
		t.Errorf("the grid %+v became %+v", before, a.g)
	}
	// The starts and the goals may be the same list.
	same := ask{g: a.g, starts: starts[:len(a.starts)], goals: starts[:len(a.starts)]}
	if b.spanLeast() != -1 && (same.spanLeast() != 0 || same.movesLeast() != 0) {
		t.Errorf("the bounds of %+v are %d and %d", same, same.spanLeast(), same.movesLeast())
	}
}

func TestBoundsKeepTheirArguments(t *testing.T) {
	s := numbers(114)
	for _, g := range append(wayGrids(), limitGrids()...) {
		for _, a := range asksOn(&s, g, 0, 0, 0) {
			checkBoundsKept(t, a)
			checkBoundsKept(t, ask{g: g, starts: a.goals, goals: a.starts})
			descending := slices.Clone(a.starts)
			slices.Reverse(descending)
			checkBoundsKept(t, ask{g: g, starts: descending, goals: a.goals})
			checkBoundsKept(t, ask{g: g, starts: a.starts, goals: descending})
		}
	}
	for _, c := range boundCases() {
		checkBoundsKept(t, ask{g: c.g, starts: c.starts, goals: c.goals})
	}
	for _, c := range append(askFaults(), badAsks()...) {
		checkBoundsKept(t, c.a)
	}
	for _, g := range append(invalidGrids(), fullOf('#')) {
		checkBoundsKept(t, ask{g: g, starts: []int{0, 3}, goals: []int{3, 0}})
	}
}
