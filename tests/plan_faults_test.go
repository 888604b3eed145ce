package tests

import (
	"math"
	"slices"
	"strings"
	"testing"

	"loop.example/g00961/impl"
)

// planOf has the paths of a problem as a plan, with the right number of moves.
func (a ask) planOf(ways []impl.Way) impl.Plan {
	return impl.Plan{Span: a.span, Moves: plainMovesOf(ways), Ways: ways}
}

func (a ask) fault(p impl.Plan) int { return impl.PlanFault(a.g, a.starts, a.goals, p) }

// plainForm reports whether there is one path for each start, from there on, with cells for all times.
func plainForm(starts []int, p impl.Plan) bool {
	if len(p.Ways) != len(starts) {
		return false
	}
	for i, w := range p.Ways {
		if len(w.Cells) == 0 || len(w.Cells)-1 != p.Span || w.Cells[0] != starts[i] {
			return false
		}
	}
	return true
}

// plainStepsOk reports whether all cells are free, and each one is next to the one before or the same.
func plainStepsOk(g impl.Grid, ways []impl.Way) bool {
	free := freeCellsOf(g)
	for _, w := range ways {
		for time, c := range w.Cells {
			if !slices.Contains(free, c) {
				return false
			}
			if time > 0 && c != w.Cells[time-1] && !slices.Contains(plainAround(g, w.Cells[time-1]), c) {
				return false
			}
		}
	}
	return true
}

// codesOf has all codes that apply to a plan for the starts and the goals of a problem, whether those before them apply or not.
func (a ask) codesOf(p impl.Plan) []int {
	var codes []int
	add := func(code int, applies bool) {
		if applies && !slices.Contains(codes, code) {
			codes = append(codes, code)
		}
	}
	add(impl.PnAsk, !a.at(p.Span).plainOk())
	add(impl.PnForm, !plainForm(a.starts, p))
	add(impl.PnStep, !plainStepsOk(a.g, p.Ways))
	for _, time := range timesOf(p.Ways) {
		add(impl.PnMeet, time < p.Span && plainMeet(p.Ways, time))
		add(impl.PnSwap, time < p.Span && plainSwaps(p.Ways, time) > 0)
		add(impl.PnRing, time < p.Span && plainRings(p.Ways, time) > 0)
	}
	ends := plainEndsOf(p.Ways)
	for _, goal := range a.goals {
		add(impl.PnGoal, !slices.Contains(ends, goal))
	}
	add(impl.PnMoves, p.Moves != plainMovesOf(p.Ways))
	slices.Sort(codes)
	return codes
}

// checkPlan checks PlanFault for any plan, and tells its code. Promise 12: a plan without faults has no meetings, swaps or rings, and reaches all goals.
func (a ask) checkPlan(t *testing.T, p impl.Plan) int {
	t.Helper()
	want := 0
	if codes := a.codesOf(p); len(codes) > 0 {
		want = codes[0]
	}
	if got := a.fault(p); got != want {
		t.Errorf("PlanFault(%+v) of %+v = %d, want %d", a, p, got, want)
	}
	if want != 0 {
		return want
	}
	for time := range p.Span {
		if !impl.LevelWays(p.Ways, time) || impl.MeetAt(p.Ways, time) || impl.SwapsAt(p.Ways, time) != 0 || impl.RingsAt(p.Ways, time) != 0 {
			t.Errorf("the plan %+v for %+v has no faults, but a meeting, a swap or a ring at %d", p, a, time)
		}
	}
	ends := impl.EndsOf(p.Ways)
	for _, goal := range a.goals {
		if !slices.Contains(ends, goal) {
			t.Errorf("the plan %+v for %+v has no faults, but does not reach %d", p, a, goal)
		}
	}
	return 0
}

// checkCode checks a plan to which a single code applies, or none.
func (a ask) checkCode(t *testing.T, name string, p impl.Plan, code int) {
	t.Helper()
	want := []int{code}
	if code == 0 {
		want = nil
	}
	if codes := a.codesOf(p); !slices.Equal(codes, want) {
		t.Errorf("%s: the codes %v apply to %+v, want %v", name, codes, p, want)
	}
	if a.checkPlan(t, p) != code {
		t.Errorf("%s: PlanFault(%+v) of %+v is not %d", name, a, p, code)
	}
}

func TestPlanCodes(t *testing.T) {
	codes := []int{impl.PnAsk, impl.PnForm, impl.PnStep, impl.PnMeet, impl.PnSwap, impl.PnRing, impl.PnGoal, impl.PnMoves}
	if !slices.Equal(codes, []int{1, 2, 3, 4, 5, 6, 7, 8}) {
		t.Errorf("the codes are %v", codes)
	}
}

func TestPlanExamples(t *testing.T) {
	square := gridWith("..", "..")
	swap, ring := pathsIn(t, "0 1, 1 0"), pathsIn(t, "0 1, 1 3, 2 0, 3 2")
	if swaps, rings := impl.SwapsAt(swap, 0), impl.RingsAt(swap, 0); swaps != 1 || rings != 0 {
		t.Errorf("the first example has %d swaps and %d paths in rings", swaps, rings)
	}
	if swaps, rings := impl.SwapsAt(ring, 0), impl.RingsAt(ring, 0); swaps != 0 || rings != 4 {
		t.Errorf("the second example has %d swaps and %d paths in rings", swaps, rings)
	}
	for _, goals := range [][]int{nil, {0}, {1}, {0, 1}} {
		two, four := ask{square, []int{0, 1}, goals, 1}, ask{square, []int{0, 1, 2, 3}, goals, 1}
		two.checkCode(t, "the first example", two.planOf(swap), impl.PnSwap)
		four.checkCode(t, "the second example", four.planOf(ring), impl.PnRing)
		// Robots that stay reach the same goals.
		two.checkCode(t, "two robots that stay", two.planOf(two.waits()), 0)
		four.checkCode(t, "four robots that stay", four.planOf(four.waits()), 0)
	}
	four := ask{square, []int{0, 1, 2, 3}, []int{0, 1, 2, 3}, 1}
	four.checkCode(t, "the second example with all goals", four.planOf(ring), impl.PnRing)
}

// planCase is a list of paths for a problem, with the right number of moves, and the code that applies to it.
type planCase struct {
	name string
	a    ask
	ways string
	code int
}

// Problems in a row of four cells, and in three rows whose last cell is blocked.
func rowAsk(starts []int, goals []int, span int) ask {
	return ask{gridWith("...."), starts, goals, span}
}

func planeAsk(starts []int, goals []int, span int) ask {
	return ask{gridWith("...", "...", "..#"), starts, goals, span}
}

// Plans without faults.
func goodPlans() []planCase {
	all := []int{0, 1, 2, 3, 4, 5, 6, 7}
	return []planCase{
		{"one robot stays", rowAsk([]int{2}, nil, 3), "2 2 2 2", 0},
		{"one robot stays at its goal", rowAsk([]int{2}, []int{2}, 3), "2 2 2 2", 0},
		{"one robot moves to its goal", rowAsk([]int{0}, []int{3}, 3), "0 1 2 3", 0},
		{"one robot moves to its goal and waits there", rowAsk([]int{0}, []int{2}, 4), "0 1 1 2 2", 0},
		{"one robot moves there and back", rowAsk([]int{0}, []int{0}, 4), "0 1 2 1 0", 0},
		{"one robot moves without a goal", rowAsk([]int{0}, nil, 4), "0 1 2 1 2", 0},
		{"two robots follow one another", rowAsk([]int{0, 1}, []int{2, 3}, 2), "0 1 2, 1 2 3", 0},
		{"two robots follow one another to the left", rowAsk([]int{2, 3}, []int{0, 1}, 2), "2 1 0, 3 2 1", 0},
		{"two robots, one goal", rowAsk([]int{0, 1}, []int{3}, 2), "0 0 0, 1 2 3", 0},
		{"two robots, the goal is for the first one", rowAsk([]int{1, 2}, []int{0}, 1), "1 0, 2 2", 0},
		{"two robots, no goals", rowAsk([]int{0, 1}, nil, 2), "0 0 1, 1 2 2", 0},
		{"each robot comes to the goal of the other one", rowAsk([]int{0, 3}, []int{1, 2}, 1), "0 1, 3 2", 0},
		{"three robots follow one another", rowAsk([]int{0, 1, 2}, []int{1, 2, 3}, 1), "0 1, 1 2, 2 3", 0},
		{"four robots fill the row", rowAsk([]int{0, 1, 2, 3}, []int{0, 1, 2, 3}, 2), "0 0 0, 1 1 1, 2 2 2, 3 3 3", 0},
		{"three robots of a square go around", ask{gridWith("..", ".."), []int{0, 1, 2}, []int{1}, 1}, "0 1, 1 3, 2 0", 0},
		{"a robot goes around another one", planeAsk([]int{0, 1}, []int{1, 2}, 4), "0 3 4 5 2, 1 1 1 1 1", 0},
		{"a robot comes to the cell of another one a time later", planeAsk([]int{0, 1}, []int{1, 4}, 2), "0 0 1, 1 4 4", 0},
		{"two robots exchange their cells in a detour", planeAsk([]int{0, 1}, []int{0, 1}, 3), "0 3 4 1, 1 0 0 0", 0},
		{"eight robots stay", planeAsk(all, all, 2), "0 0 0, 1 1 1, 2 2 2, 3 3 3, 4 4 4, 5 5 5, 6 6 6, 7 7 7", 0},
		{"all steps on the cells of zones", ask{gridWith("aA", "fF"), []int{0}, []int{2}, 3}, "0 1 3 2", 0},
		{"span 0", rowAsk([]int{2}, nil, 0), "2", 0},
		{"span 0, goals", rowAsk([]int{0, 2, 3}, []int{0, 3}, 0), "0, 2, 3", 0},
	}
}

// Plans with one fault, most of them at the first or at the last time.
func badPlans() []planCase {
	four := []int{0, 1, 3, 4}
	return []planCase{
		{"a meeting at the first time", rowAsk([]int{0, 2}, nil, 3), "0 1 0 0, 2 1 2 2", impl.PnMeet},
		{"a meeting at the last time", rowAsk([]int{0, 2}, nil, 3), "0 0 0 1, 2 2 2 1", impl.PnMeet},
		{"a meeting at a goal", rowAsk([]int{0, 2}, []int{1}, 1), "0 1, 2 1", impl.PnMeet},
		{"a robot comes to one that stays", rowAsk([]int{0, 1}, nil, 2), "0 0 1, 1 1 1", impl.PnMeet},
		{"two robots meet from the first step on", rowAsk([]int{0, 1}, nil, 2), "0 1 2, 1 1 2", impl.PnMeet},
		{"a meeting of the first and the last path", planeAsk([]int{0, 1, 4}, nil, 2), "0 3 0, 1 1 1, 4 3 4", impl.PnMeet},
		{"a swap at the first time", rowAsk([]int{0, 1}, nil, 3), "0 1 1 1, 1 0 0 0", impl.PnSwap},
		{"a swap at the last time", rowAsk([]int{0, 1}, nil, 3), "0 0 0 1, 1 1 1 0", impl.PnSwap},
		{"a swap at each time", rowAsk([]int{0, 1}, []int{0, 1}, 3), "0 1 0 1, 1 0 1 0", impl.PnSwap},
		{"a swap between rows", planeAsk([]int{1, 4}, []int{1}, 1), "1 4, 4 1", impl.PnSwap},
		{"two swaps", rowAsk([]int{0, 1, 2, 3}, []int{0, 1, 2, 3}, 1), "0 1, 1 0, 2 3, 3 2", impl.PnSwap},
		{"a swap of the last two robots", rowAsk([]int{0, 2, 3}, []int{0, 2, 3}, 2), "0 0 0, 2 3 3, 3 2 2", impl.PnSwap},
		{"a ring at the first time", planeAsk(four, four, 2), "0 1 1, 1 4 4, 3 0 0, 4 3 3", impl.PnRing},
		{"a ring at the last time", planeAsk(four, four, 2), "0 0 1, 1 1 4, 3 3 0, 4 4 3", impl.PnRing},
		{"a ring the other way round", planeAsk(four, nil, 1), "0 3, 1 0, 3 4, 4 1", impl.PnRing},
		{"a ring at each time", planeAsk(four, four, 4), "0 1 4 3 0, 1 4 3 0 1, 3 0 1 4 3, 4 3 0 1 4", impl.PnRing},
		{"a ring of six", planeAsk([]int{0, 1, 2, 3, 4, 5}, nil, 1), "0 1, 1 2, 2 5, 3 0, 4 3, 5 4", impl.PnRing},
		{"a ring beside a robot that follows it", planeAsk([]int{0, 1, 3, 4, 7}, nil, 1), "0 1, 1 4, 3 0, 4 3, 7 6", impl.PnRing},
		{"a goal that is passed", rowAsk([]int{0}, []int{1}, 2), "0 1 2", impl.PnGoal},
		{"a goal that is left at once", rowAsk([]int{1}, []int{1}, 1), "1 2", impl.PnGoal},
		{"a goal that is left at the last time", rowAsk([]int{0}, []int{1}, 2), "0 1 0", impl.PnGoal},
		{"a goal that is never reached", rowAsk([]int{0}, []int{3}, 2), "0 1 2", impl.PnGoal},
		{"the first of two goals is no end", rowAsk([]int{0, 1}, []int{1, 3}, 2), "0 0 0, 1 2 3", impl.PnGoal},
		{"the last of two goals is no end", rowAsk([]int{0, 1}, []int{1, 3}, 2), "0 0 1, 1 2 2", impl.PnGoal},
		{"the only goal of three robots is no end", rowAsk([]int{0, 1, 2}, []int{3}, 2), "0 0 0, 1 1 1, 2 3 2", impl.PnGoal},
		{"a goal that cannot be reached", ask{gridWith(".#."), []int{0}, []int{2}, 2}, "0 0 0", impl.PnGoal},
		{"span 0, a goal is no start", rowAsk([]int{0, 2}, []int{1}, 0), "0, 2", impl.PnGoal},
		{"span 0, no paths", rowAsk([]int{0, 2}, nil, 0), "", impl.PnForm},
		{"span 0, a path too few", rowAsk([]int{0, 2}, nil, 0), "0", impl.PnForm},
		{"span 0, a path too many", rowAsk([]int{0, 2}, nil, 0), "0, 2, 3", impl.PnForm},
		{"span 0, paths in another order", rowAsk([]int{0, 2}, nil, 0), "2, 0", impl.PnForm},
		{"span 0, a path without cells", rowAsk([]int{0, 2}, nil, 0), "0,", impl.PnForm},
		{"span 0, two cells", rowAsk([]int{0, 2}, nil, 0), "0 0, 2 2", impl.PnForm},
	}
}

func TestPlanFaultTables(t *testing.T) {
	for _, c := range append(goodPlans(), badPlans()...) {
		c.a.checkCode(t, c.name, c.a.planOf(pathsIn(t, c.ways)), c.code)
	}
	for _, c := range wayFaults() {
		p := c.a.planOf(pathsIn(t, c.ways))
		if got := c.a.fault(p); got != c.code || c.a.checkPlan(t, p) != c.code {
			t.Errorf("%s: PlanFault(%+v) of %s = %d, want %d", c.name, c.a, c.ways, got, c.code)
		}
	}
}

// A path of each plan without faults is left out, doubled, made longer or shorter, or begins elsewhere; or Span or Moves is another number.
func TestPlanFaultOfChangedForms(t *testing.T) {
	for _, c := range goodPlans() {
		good := c.a.planOf(pathsIn(t, c.ways))
		change := func(name string, code int, change func(p *impl.Plan)) {
			p := good
			p.Ways = cloneWays(good.Ways)
			change(&p)
			if got := c.a.checkPlan(t, p); got != code {
				t.Errorf("%s, with %s: PlanFault of %+v = %d, want %d", c.name, name, p, got, code)
			}
		}
		for _, moves := range []int{good.Moves + 1, good.Moves - 1, -good.Moves - 1, -1, 1000, math.MinInt, math.MaxInt} {
			change("other Moves", impl.PnMoves, func(p *impl.Plan) { p.Moves = moves })
		}
		change("a greater Span", impl.PnForm, func(p *impl.Plan) { p.Span++ })
		for _, span := range []int{-1, -2, impl.MaxSpan + 1, math.MinInt, math.MinInt + 1, math.MaxInt, math.MaxInt - 1, 1<<62 - 1} {
			change("a Span out of its range", impl.PnAsk, func(p *impl.Plan) { p.Span = span })
		}
		if good.Span > 0 {
			change("a smaller Span", impl.PnForm, func(p *impl.Plan) { p.Span-- })
		}
		for i, w := range good.Ways {
			last := w.Cells[len(w.Cells)-1]
			change("a path left out", impl.PnForm, func(p *impl.Plan) { p.Ways = slices.Delete(p.Ways, i, i+1) })
			change("a path twice", impl.PnForm, func(p *impl.Plan) { p.Ways = slices.Insert(p.Ways, i, p.Ways[i]) })
			change("a path twice, at the end", impl.PnForm, func(p *impl.Plan) { p.Ways = append(p.Ways, p.Ways[i]) })
			change("a path without cells at the end", impl.PnForm, func(p *impl.Plan) { p.Ways = append(p.Ways, impl.Way{}) })
			change("a cell more", impl.PnForm, func(p *impl.Plan) { p.Ways[i].Cells = append(p.Ways[i].Cells, last) })
			change("a cell less", impl.PnForm, func(p *impl.Plan) { p.Ways[i].Cells = p.Ways[i].Cells[:good.Span] })
			change("no cells", impl.PnForm, func(p *impl.Plan) { p.Ways[i].Cells = nil })
			for _, first := range []int{-1, w.Cells[0] + 1, w.Cells[0] - 1, math.MinInt, math.MaxInt} {
				change("another first cell", impl.PnForm, func(p *impl.Plan) { p.Ways[i].Cells[0] = first })
			}
		}
	}
}

// Each cell of each plan without faults is changed to each other number in and around the grid.
func TestPlanFaultOfChangedCells(t *testing.T) {
	seen := map[int]int{}
	for _, c := range goodPlans() {
		good := c.a.planOf(pathsIn(t, c.ways))
		for i, w := range good.Ways {
			for time := range w.Cells {
				others := []int{math.MinInt, math.MaxInt, -100, 100}
				for cell := -3; cell < len(c.a.g.Cells)+3; cell++ {
					others = append(others, cell)
				}
				for _, cell := range others {
					ways := cloneWays(good.Ways)
					ways[i].Cells[time] = cell
					seen[c.a.checkPlan(t, c.a.planOf(ways))]++
				}
			}
		}
	}
	for _, code := range []int{0, impl.PnForm, impl.PnStep, impl.PnMeet, impl.PnGoal} {
		if seen[code] < 10 {
			t.Errorf("only %d plans have the code %d", seen[code], code)
		}
	}
}

// Whatever a plan for a problem that is not valid is, it has PnAsk.
func checkNoPlan(t *testing.T, name string, a ask) {
	t.Helper()
	waits := a.waits()
	more := append(a.waits(), impl.Way{Cells: []int{-1, 5}})
	for _, ways := range [][]impl.Way{waits, more, nil, make([]impl.Way, len(a.starts)), {{Cells: []int{0, 1, 0}}, {Cells: []int{1, 0, 1}}}} {
		p := a.planOf(ways)
		for _, moves := range []int{p.Moves, -1, 5} {
			p.Moves = moves
			if got := a.fault(p); got != impl.PnAsk {
				t.Errorf("%s: PlanFault(%+v) of %+v = %d", name, a, p, got)
			}
		}
	}
}

func TestPlanFaultWithoutProblem(t *testing.T) {
	waitAsk.checkCode(t, "a valid problem", waitAsk.planOf(waitAsk.waits()), 0)
	for _, c := range badAsks() {
		p := c.a.planOf(c.a.waits())
		if got := c.a.fault(p); got != impl.PnAsk {
			t.Errorf("%s: PlanFault(%+v) of %+v = %d", c.name, c.a, p, got)
		}
		checkNoPlan(t, c.name, c.a)
	}
	for _, c := range askFaults() {
		// With a span that is too great, there are not as many paths of this length.
		if c.a.span <= impl.MaxSpan+1 {
			checkNoPlan(t, c.name, c.a)
		}
	}
	for _, a := range []ask{waitAsk, noGoals, twoGoals, rowAsk([]int{0}, nil, 0)} {
		for _, span := range []int{-1, -2, impl.MaxSpan + 1, math.MinInt, math.MinInt + 1, math.MaxInt, math.MaxInt - 1, 1<<62 - 1} {
			for _, ways := range [][]impl.Way{a.waits(), nil, make([]impl.Way, len(a.starts))} {
				if got := a.fault(impl.Plan{Span: span, Ways: ways}); got != impl.PnAsk {
					t.Errorf("PlanFault(%+v) of %v with Span %d = %d", a, ways, span, got)
				}
			}
		}
	}
}

func TestPlanFaultOfInvalidGrids(t *testing.T) {
	for _, g := range invalidGrids() {
		for _, span := range []int{0, 1, impl.MaxSpan} {
			for _, goals := range [][]int{nil, {0}} {
				checkNoPlan(t, "an invalid grid", ask{g, []int{0}, goals, span})
			}
		}
	}
}

// fleet is a plan with chosen faults, on a grid with one part for each of them. A time is 0 for a fault that it does not have.
type fleet struct {
	meet, swap, ring, step int // when it is made; a fault of a step from one time to the next one is made at the later time
	goal, moves            bool
	form                   string
	ask                    string
}

const fleetSpan = 3

// fleetGrid has two cells in which robots can exchange them, three in which they can meet, one that no robot comes to, a ring,
// a cell beside a blocked one, and two cells apart.
func fleetGrid() impl.Grid { return gridWith("..#...#.", "########", "..#.#.#.", "..######") }

// plan returns the problem and the plan. If it is turned, the last robot of the grid is the first one.
func (f fleet) plan(turned bool) (ask, impl.Plan) {
	a := ask{g: fleetGrid(), starts: []int{0, 1, 3, 5, 16, 17, 19, 21, 24, 25}, goals: []int{0, 1, 16}, span: fleetSpan}
	ways := a.waits()
	for time := range fleetSpan + 1 {
		if f.swap > 0 && time >= f.swap {
			ways[0].Cells[time], ways[1].Cells[time] = 1, 0
		}
		if f.meet > 0 && time == f.meet {
			ways[2].Cells[time], ways[3].Cells[time] = 4, 4
		}
		if f.ring > 0 && time >= f.ring {
			ways[4].Cells[time], ways[5].Cells[time], ways[9].Cells[time], ways[8].Cells[time] = 17, 25, 24, 16
		}
		if f.step > 0 && time == f.step {
			ways[6].Cells[time] = 18
		}
	}
	if f.goal {
		a.goals = []int{0, 1, 7, 16}
	}
	if turned {
		a, ways = turnedPlan(a, ways)
	}
	lone, apart := 21, 23
	if turned {
		lone, apart = len(a.g.Cells)-1-lone, len(a.g.Cells)-1-apart
	}
	place := slices.Index(a.starts, lone)
	switch f.form {
	case "elsewhere":
		ways[place].Cells = slices.Repeat([]int{apart}, fleetSpan+1)
	case "fewer starts":
		a.starts = slices.Delete(a.starts, place, place+1)
	case "fewer paths":
		ways = slices.Delete(ways, place, place+1)
	case "shorter":
		ways[place].Cells = ways[place].Cells[:fleetSpan]
	case "longer":
		ways[place].Cells = append(ways[place].Cells, ways[place].Cells[0])
	case "no cells":
		ways[place].Cells = nil
	}
	switch f.ask {
	case "goals descend":
		slices.Reverse(a.goals)
	case "goal twice":
		a.goals = append(a.goals, a.goals[len(a.goals)-1])
	case "starts descend":
		slices.Reverse(a.starts)
		slices.Reverse(ways)
	}
	p := a.planOf(ways)
	if f.moves {
		p.Moves--
	}
	return a, p
}

// turnedPlan turns the grid by half a turn, so that all cells and all robots are in the opposite order.
func turnedPlan(a ask, ways []impl.Way) (ask, []impl.Way) {
	last := len(a.g.Cells) - 1
	turn := func(cells []int) []int {
		var turned []int
		for _, c := range cells {
			turned = append(turned, last-c)
		}
		return turned
	}
	cells := []byte(a.g.Cells)
	slices.Reverse(cells)
	turned := ask{impl.Grid{Wide: a.g.Wide, High: a.g.High, Cells: string(cells)}, turn(a.starts), turn(a.goals), a.span}
	slices.Reverse(turned.starts)
	slices.Reverse(turned.goals)
	var turnedWays []impl.Way
	for _, w := range slices.Backward(ways) {
		turnedWays = append(turnedWays, impl.Way{Cells: turn(w.Cells)})
	}
	return turned, turnedWays
}

// codes has the codes of the faults.
func (f fleet) codes() []int {
	var codes []int
	for i, has := range []bool{f.ask != "", f.form != "", f.step > 0, f.meet > 0, f.swap > 0, f.ring > 0, f.goal, f.moves} {
		if has {
			codes = append(codes, i+1)
		}
	}
	return codes
}

// possible is false if a swap or a ring does not count because other robots meet at the same time.
func (f fleet) possible() bool {
	hidden := func(time int) bool { return time > 0 && f.meet > 0 && (time == f.meet || time == f.meet+1) }
	level := f.form != "shorter" && f.form != "longer" && f.form != "no cells"
	return !hidden(f.swap) && !hidden(f.ring) && (level || f.meet == 0 && f.swap == 0 && f.ring == 0)
}

// fleets visits all plans with any of the faults, at all times.
func fleets(visit func(f fleet)) {
	for _, ask := range []string{"", "goals descend", "goal twice", "starts descend"} {
		for _, form := range []string{"", "elsewhere", "fewer starts", "fewer paths", "shorter", "longer", "no cells"} {
			for _, times := range listsFrom(0, fleetSpan, 4) {
				for _, ends := range listsFrom(0, 1, 2) {
					f := fleet{times[0], times[1], times[2], times[3], ends[0] == 1, ends[1] == 1, form, ask}
					if f.possible() {
						visit(f)
					}
				}
			}
		}
	}
}

// The first code in the list is returned, whether the others apply to the same time and the same path, to earlier or to later ones.
func TestPlanFaultOrder(t *testing.T) {
	pairs := map[[2]int]int{}
	fleets(func(f fleet) {
		want := f.codes()
		for _, turned := range []bool{false, true} {
			a, p := f.plan(turned)
			if codes := a.codesOf(p); !slices.Equal(codes, want) {
				t.Fatalf("the codes %v apply to %+v, want %v", codes, f, want)
			}
			first := 0
			if len(want) > 0 {
				first = want[0]
			}
			if got := a.fault(p); got != first {
				t.Errorf("%+v, turned %v: PlanFault is %d, and the codes %v apply", f, turned, got, want)
			}
		}
		if len(want) == 2 {
			pairs[[2]int{want[0], want[1]}]++
		}
	})
	if len(pairs) != 28 {
		t.Errorf("only %d pairs of codes: %v", len(pairs), pairs)
	}
}

// Plans with two faults, in words: the later code applies at an earlier time or to an earlier path, or both apply in the same place.
func TestPlanFaultOfTwoFaults(t *testing.T) {
	four := []int{0, 1, 3, 4}
	cases := []planCase{
		{"a step to a blocked cell after a meeting", planeAsk([]int{0, 2, 5}, nil, 3), "0 1 0 0, 2 1 2 2, 5 5 5 8", impl.PnStep},
		{"a step to a blocked cell in the last path, a meeting of the others", planeAsk([]int{0, 2, 5}, nil, 1), "0 1, 2 1, 5 8", impl.PnStep},
		{"a meeting at a blocked cell", planeAsk([]int{5, 7}, nil, 1), "5 8, 7 8", impl.PnStep},
		{"a meeting outside of the grid", planeAsk([]int{0, 1}, nil, 1), "0 -1, 1 -1", impl.PnStep},
		{"a swap of cells that are not adjacent", rowAsk([]int{0, 3}, nil, 1), "0 3, 3 0", impl.PnStep},
		{"a ring of cells that are not adjacent", rowAsk([]int{0, 1, 2}, nil, 1), "0 1, 1 2, 2 0", impl.PnStep},
		{"a step to a cell that is not adjacent after a swap", rowAsk([]int{0, 1, 3}, nil, 3), "0 1 1 1, 1 0 0 0, 3 3 3 9", impl.PnStep},
		{"a step that is too long to the goal", rowAsk([]int{0}, []int{3}, 1), "0 2", impl.PnStep},
		{"a meeting after a swap", rowAsk([]int{0, 1, 3}, nil, 3), "0 1 1 2, 1 0 0 0, 3 3 3 2", impl.PnMeet},
		{"a meeting before a swap", rowAsk([]int{0, 1, 3}, nil, 3), "0 0 0 1, 1 2 1 0, 3 2 3 3", impl.PnMeet},
		{"a meeting after a ring", planeAsk([]int{0, 1, 3, 4, 7}, nil, 3), "0 1 1 1, 1 4 4 4, 3 0 0 0, 4 3 3 6, 7 7 7 6", impl.PnMeet},
		{"a swap after a ring", planeAsk(four, nil, 2), "0 1 0, 1 4 4, 3 0 1, 4 3 3", impl.PnSwap},
		{"a swap before a ring", planeAsk(four, nil, 2), "0 1 4, 1 0 1, 3 3 0, 4 4 3", impl.PnSwap},
		{"a swap of the last paths beside a ring", planeAsk([]int{0, 1, 3, 4, 6, 7}, nil, 1), "0 1, 1 4, 3 0, 4 3, 6 7, 7 6", impl.PnSwap},
		{"a meeting at a cell that is no goal", rowAsk([]int{0, 2}, []int{3}, 1), "0 1, 2 1", impl.PnMeet},
		{"a swap away from a goal", planeAsk([]int{0, 1}, []int{3}, 1), "0 1, 1 0", impl.PnSwap},
		{"a ring that does not reach a goal", planeAsk(four, []int{5}, 1), "0 1, 1 4, 3 0, 4 3", impl.PnRing},
		{"another path beside one that begins elsewhere meets it", rowAsk([]int{0, 1}, nil, 1), "0 0, 0 1", impl.PnForm},
		{"the same path twice instead of two", rowAsk([]int{0, 1}, nil, 1), "0 0, 0 0", impl.PnForm},
		{"a longer path that steps to a blocked cell", planeAsk([]int{5}, nil, 1), "5 5 8", impl.PnForm},
		{"no paths, and a goal", rowAsk([]int{0}, []int{0}, 1), "", impl.PnForm},
		{"a path without cells after a step that is too long", rowAsk([]int{0, 1}, []int{1}, 1), "0 3,", impl.PnForm},
	}
	for _, c := range cases {
		p := c.a.planOf(pathsIn(t, c.ways))
		if codes := c.a.codesOf(p); len(codes) < 2 || codes[0] != c.code {
			t.Errorf("%s: the codes %v apply to %s", c.name, codes, c.ways)
		}
		for _, moves := range []int{p.Moves, p.Moves + 1, 0, -1} {
			p.Moves = moves
			if got := c.a.fault(p); got != c.code || c.a.checkPlan(t, p) != c.code {
				t.Errorf("%s: PlanFault(%+v) of %s = %d, want %d", c.name, c.a, c.ways, got, c.code)
			}
		}
	}
	// Too few moves, and a goal that no path reaches.
	a := rowAsk([]int{0}, []int{3}, 2)
	if got := a.fault(impl.Plan{Span: 2, Moves: 3, Ways: pathsIn(t, "0 1 2")}); got != impl.PnGoal {
		t.Errorf("Moves of the way to a goal that is not reached: PlanFault = %d", got)
	}
}

// Promise 12: all plans of robots that never meet on small grids.
func TestPlanFaultOfAllPaths(t *testing.T) {
	cases := []struct {
		g            impl.Grid
		robots, span int
	}{
		{gridWith("."), 1, 4}, {gridWith(".."), 2, 4}, {gridWith(".#."), 2, 3}, {gridWith("..."), 3, 2}, {gridWith(".", ".", "."), 2, 3},
		{gridWith("..", "#."), 3, 2}, {gridWith("..", ".."), 4, 2}, {gridWith("aA.", "B#f"), 3, 1}, {gridWith("..", "..", ".."), 2, 1}, {gridWith("...", "..."), 4, 0},
	}
	seen := map[int]int{}
	for _, c := range cases {
		for _, a := range problemsOn(c.g, c.robots, c.span) {
			can := false
			eachWays(a, func(ways []impl.Way) {
				code := a.checkPlan(t, a.planOf(ways))
				can = can || code == 0
				seen[code]++
			})
			// What robots can do with swaps and rings, they can do without.
			if can != a.can() {
				t.Errorf("%+v: a plan without faults exists: %v, and CanAt is %v", a, can, a.can())
			}
		}
	}
	for _, code := range []int{0, impl.PnSwap, impl.PnRing, impl.PnGoal} {
		if seen[code] < 100 {
			t.Errorf("only %d plans have the code %d", seen[code], code)
		}
	}
}

// All lists of numbers, among them cells outside of the grid, as the paths of plans.
func TestPlanFaultOfAllLists(t *testing.T) {
	seen := map[int]int{}
	for _, c := range []struct {
		g            impl.Grid
		robots, span int
	}{{gridWith(".."), 2, 2}, {gridWith("."), 1, 3}, {gridWith(".#"), 1, 2}, {gridWith("..", ".."), 2, 1}, {gridWith("..."), 3, 0}, {gridWith("..#", ".#."), 2, 1}} {
		for _, a := range problemsOn(c.g, c.robots, c.span) {
			for _, list := range listsFrom(-1, len(a.g.Cells), len(a.starts)*(a.span+1)) {
				var ways []impl.Way
				for cells := range slices.Chunk(list, a.span+1) {
					ways = append(ways, impl.Way{Cells: cells})
				}
				seen[a.checkPlan(t, a.planOf(ways))]++
			}
		}
	}
	for _, code := range []int{0, impl.PnForm, impl.PnStep, impl.PnMeet, impl.PnSwap, impl.PnGoal} {
		if seen[code] < 50 {
			t.Errorf("only %d plans have the code %d", seen[code], code)
		}
	}
}

// Paths chosen at random, with one change of them, of the starts or of the goals.
func TestPlanFaultOfSomePaths(t *testing.T) {
	s := numbers(12345)
	seen := map[int]int{}
	for _, g := range wayGrids() {
		for _, a := range asksOn(&s, g, 0, 1, 2, 5, 11, 20) {
			ways := wander(&s, a)
			a.goals = someEnds(&s, a, ways)
			seen[a.checkPlan(t, a.planOf(ways))]++
			seen[a.checkPlan(t, a.planOf(a.waits()))]++
			seen[a.checkPlan(t, impl.Plan{Span: a.span, Moves: s.below(50), Ways: ways})]++
			for range 6 {
				changed := spoiled(&s, ways, len(g.Cells))
				seen[a.checkPlan(t, a.planOf(changed))]++
				seen[ask{g, a.goals, a.starts, a.span}.checkPlan(t, a.planOf(changed))]++
			}
		}
	}
	for code := range impl.PnMoves + 1 {
		// A ring without any swap is too rare to be expected.
		if seen[code] < 50 && code != impl.PnRing {
			t.Errorf("only %d plans have the code %d", seen[code], code)
		}
	}
}

// The paths of the flow of Cheapest have no swaps and rings: robots that stay would move less.
func TestPlanFaultOfCheapFlows(t *testing.T) {
	s := numbers(121212)
	plans := 0
	for _, g := range append(wayGrids(), limitGrids()...) {
		for _, a := range asksOn(&s, g, 0, 1, 2, 5, 9, 14, 20) {
			net, _ := a.net(false)
			flow, cost, ok := impl.Cheapest(net, len(a.starts))
			if !ok {
				continue
			}
			ways, _ := a.waysOf(flow)
			a.checkCode(t, "a flow of Cheapest", impl.Plan{Span: a.span, Moves: cost, Ways: ways}, 0)
			plans++
		}
	}
	if plans < 500 {
		t.Errorf("only %d plans", plans)
	}
}

// checkKnownPlan checks a plan of MaxRobots robots with a known code, at the limits, and on the other side of each of them.
func checkKnownPlan(t *testing.T, name string, a ask, ways []impl.Way, code int) {
	t.Helper()
	p := a.planOf(ways)
	a.checkCode(t, name, p, code)
	p.Moves++
	if got := a.checkPlan(t, p); got != code && (code != 0 || got != impl.PnMoves) {
		t.Errorf("%s: PlanFault with a move more is %d", name, got)
	}
	longer := cloneWays(ways)
	for i := range longer {
		longer[i].Cells = append(longer[i].Cells, longer[i].Cells[a.span])
	}
	above := a.at(a.span + 1)
	if got := above.checkPlan(t, above.planOf(longer)); got != impl.PnAsk {
		t.Errorf("%s: PlanFault above the limits is %d", name, got)
	}
	stray := cloneWays(ways)
	stray[len(stray)-1].Cells[a.span] = len(a.g.Cells)
	if got := a.checkPlan(t, a.planOf(stray)); got != impl.PnStep {
		t.Errorf("%s: PlanFault with a last step out of the grid is %d", name, got)
	}
	short := cloneWays(ways)
	short[len(short)-1].Cells = short[len(short)-1].Cells[:a.span]
	if got := a.checkPlan(t, a.planOf(short)); got != impl.PnForm {
		t.Errorf("%s: PlanFault without the last cell is %d", name, got)
	}
	checkTimes(t, ways)
}

// Problems at the limits with known plans.
func TestPlanFaultAtTheLimits(t *testing.T) {
	twelve := []int{0, 1, 2, 3, 4, 5, 11, 10, 9, 8, 7, 6}
	open := ask{gridWith("......", "......"), cellsFrom(0), nil, 19}
	checkKnownPlan(t, "a ring of 12 cells, in which two are empty", open, ringWays(twelve, open.starts, 19), 0)
	closed := ask{gridWith(".....", "....."), cellsFrom(0), nil, impl.MaxSpan}
	ring := []int{0, 1, 2, 3, 4, 9, 8, 7, 6, 5}
	checkKnownPlan(t, "a ring of 10 cells, all of them full", closed, ringWays(ring, closed.starts, impl.MaxSpan), impl.PnRing)
	// The ring turns at the last time only.
	late := closed.waits()
	for i := range late {
		late[i].Cells[impl.MaxSpan] = ring[(slices.Index(ring, i)+1)%10]
	}
	checkKnownPlan(t, "a ring that turns at the last time", closed, late, impl.PnRing)
	swap := closed.waits()
	swap[8].Cells[impl.MaxSpan], swap[9].Cells[impl.MaxSpan] = 9, 8
	checkKnownPlan(t, "a swap at the last time", closed, swap, impl.PnSwap)
	checkKnownPlan(t, "MaxRobots robots that stay", closed, closed.waits(), 0)
	layers := 0
	for _, c := range []struct{ free, span, steps int }{
		{60, 3, 3}, {48, 4, 4}, {40, 5, 3}, {30, 7, 2}, {24, 9, 1}, {20, 11, 0}, {16, 14, 0}, {15, 15, 0}, {12, 19, 0}, {11, 20, 0}, {10, 20, 0},
	} {
		a := ask{gridOf(c.free), cellsFrom(0), cellsFrom(impl.MaxSide * c.steps), c.span}
		checkKnownPlan(t, "down a grid", a, downWays(c.steps, c.span), 0)
		if c.free*(c.span+1) == impl.MaxLayers {
			layers++
		}
	}
	if layers != 9 {
		t.Errorf("%d problems have MaxLayers layers", layers)
	}
}

// checkPlanKept checks that the functions leave a plan, its paths, the lists, and the memory behind them as they are.
func checkPlanKept(t *testing.T, a ask, p impl.Plan) {
	t.Helper()
	starts, goals, paths := withRoomBehind(a.starts, 30, 99), withRoomBehind(a.goals, 30, 99), roomyWays(p.Ways)
	keptStarts, keptGoals, kept := slices.Clone(starts), slices.Clone(goals), cloneWays(allOf(paths))
	q := impl.Plan{Span: p.Span, Moves: p.Moves, Ways: paths[:len(p.Ways)]}
	g := impl.Grid{Wide: a.g.Wide, High: a.g.High, Cells: strings.Clone(a.g.Cells)}
	impl.PlanFault(g, starts[:len(a.starts)], goals[:len(a.goals)], q)
	for _, time := range timesOf(p.Ways) {
		impl.LevelWays(q.Ways, time)
		impl.MeetAt(q.Ways, time)
		impl.SwapsAt(q.Ways, time)
		impl.RingsAt(q.Ways, time)
	}
	if !slices.Equal(starts, keptStarts) || !slices.Equal(goals, keptGoals) || g != a.g {
		t.Errorf("a list of %+v or the memory behind it changed", a)
	}
	if !sameWays(allOf(paths), kept) || !sameWays(q.Ways, p.Ways) || q.Span != p.Span || q.Moves != p.Moves {
		t.Errorf("the plan %+v or the memory behind it changed", p)
	}
}

func TestPlansKeepTheirArguments(t *testing.T) {
	s := numbers(99)
	for _, g := range wayGrids() {
		for _, a := range asksOn(&s, g, 0, 1, 5, 20) {
			ways := wander(&s, a)
			a.goals = someEnds(&s, a, ways)
			checkPlanKept(t, a, a.planOf(ways))
			checkPlanKept(t, a, a.planOf(a.waits()))
			checkPlanKept(t, a, a.planOf(spoiled(&s, ways, len(g.Cells))))
			checkPlanKept(t, a, impl.Plan{Span: -1, Moves: -1, Ways: ways})
		}
	}
	for _, c := range slices.Concat(goodPlans(), badPlans()) {
		checkPlanKept(t, c.a, c.a.planOf(pathsIn(t, c.ways)))
	}
	for _, g := range append(invalidGrids(), fullOf('.'), fullOf('#')) {
		checkPlanKept(t, ask{g, []int{3, 0}, []int{3, 0}, 1}, impl.Plan{Span: 1, Ways: pathsIn(t, "3 2 1,, 0 9 -4, 5")})
	}
	for _, c := range append(swapCases(), ringCases()...) {
		checkPlanKept(t, rowAsk([]int{0, 1}, nil, 1), impl.Plan{Span: 1, Ways: pathsIn(t, c.ways)})
	}
}

// Paths of an argument may share memory: here they are parts of one line, or the same path twice.
func TestPlansThatShareMemory(t *testing.T) {
	line := []int{0, 1, 2, 3, 4, 5}
	ways := []impl.Way{{Cells: line[0:4]}, {Cells: line[1:5]}, {Cells: line[2:6]}}
	a := ask{gridWith("......"), []int{0, 1, 2}, []int{3, 4, 5}, 3}
	a.checkCode(t, "three robots that follow one another", a.planOf(ways), 0)
	checkTimes(t, ways)
	twice := []impl.Way{ways[0], ways[0], ways[0]}
	a.checkPlan(t, a.planOf(twice))
	checkTimes(t, twice)
	if !slices.Equal(line, []int{0, 1, 2, 3, 4, 5}) {
		t.Errorf("the line became %v", line)
	}
}
