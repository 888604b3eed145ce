package tests

import (
	"maps"
	"math"
	"slices"
	"strconv"
	"strings"
	"testing"

	"loop.example/g00961/impl"
)

// pathsIn reads paths as "0 1, 1 2": the cells of each one, and a comma between two of them. Without any byte, there are no paths.
func pathsIn(t *testing.T, text string) []impl.Way {
	t.Helper()
	if text == "" {
		return nil
	}
	var ways []impl.Way
	for _, path := range strings.Split(text, ",") {
		var w impl.Way
		for _, field := range strings.Fields(path) {
			c, err := strconv.Atoi(field)
			if err != nil {
				t.Fatalf("%q: %v", text, err)
			}
			w.Cells = append(w.Cells, c)
		}
		ways = append(ways, w)
	}
	return ways
}

func sameWays(a []impl.Way, b []impl.Way) bool {
	return slices.EqualFunc(a, b, func(v, w impl.Way) bool { return slices.Equal(v.Cells, w.Cells) })
}

func cloneWays(ways []impl.Way) []impl.Way {
	var clones []impl.Way
	for _, w := range ways {
		clones = append(clones, impl.Way{Cells: slices.Clone(w.Cells)})
	}
	return clones
}

// wayNet is a problem with its network, and with the names of its nodes.
type wayNet struct {
	ask
	net   impl.Net
	nodes []timeNode
}

func (a ask) wayNet() wayNet { return wayNet{a, a.plainNet(false), a.plainNodes(false)} }

func (a ask) flowFor(ways []impl.Way) ([]int, bool) {
	return impl.FlowFor(a.g, a.starts, a.goals, a.span, ways)
}

func (a ask) waysOf(flow []int) ([]impl.Way, bool) {
	return impl.WaysOf(a.g, a.starts, a.goals, a.span, flow)
}

// plainWaysOk reports whether robots can follow the paths, from their starts, so that no two meet and there is a robot at each goal at the end.
func (a ask) plainWaysOk(ways []impl.Way) bool {
	if len(ways) != len(a.starts) {
		return false
	}
	ends := map[int]bool{}
	for i, w := range ways {
		if len(w.Cells) != a.span+1 || w.Cells[0] != a.starts[i] {
			return false
		}
		for t, c := range w.Cells {
			if t > 0 && c != w.Cells[t-1] && !slices.Contains(plainAround(a.g, w.Cells[t-1]), c) {
				return false
			}
			for _, other := range ways[:i] {
				if other.Cells[t] == c {
					return false
				}
			}
		}
		ends[w.Cells[a.span]] = true
	}
	for _, goal := range a.goals {
		if !ends[goal] {
			return false
		}
	}
	return true
}

// passes reports whether a path leads over the arc between two nodes.
func (a ask) passes(w impl.Way, from timeNode, to timeNode) bool {
	end := w.Cells[len(w.Cells)-1]
	switch {
	case from.name == "source":
		return w.Cells[0] == to.a
	case from.name == "in":
		return w.Cells[from.t] == from.a
	case from.name == "rest":
		return !slices.Contains(a.goals, end)
	case to.name == "in":
		return w.Cells[from.t] == from.a && w.Cells[to.t] == to.a
	}
	return end == from.a
}

// plainFlow counts the paths over each arc; each path has as many cells as there are times.
func (n wayNet) plainFlow(ways []impl.Way) []int {
	var flow []int
	for _, arc := range n.net.Arcs {
		units := 0
		for _, w := range ways {
			if n.passes(w, n.nodes[arc.From], n.nodes[arc.To]) {
				units++
			}
		}
		flow = append(flow, units)
	}
	return flow
}

// plainMovesOf counts the cells of each path that remain when a cell is left out after the same one.
func plainMovesOf(ways []impl.Way) int {
	moves := 0
	for _, w := range ways {
		if len(w.Cells) > 0 {
			moves += len(slices.Compact(slices.Clone(w.Cells))) - 1
		}
	}
	return moves
}

func plainEndsOf(ways []impl.Way) []int {
	ends := map[int]bool{}
	for _, w := range ways {
		for i, c := range w.Cells {
			if i == len(w.Cells)-1 {
				ends[c] = true
			}
		}
	}
	return slices.Sorted(maps.Keys(ends))
}

func plainCellsUsed(ways []impl.Way) []int {
	used := map[int]bool{}
	for _, w := range ways {
		for _, c := range w.Cells {
			used[c] = true
		}
	}
	return slices.Sorted(maps.Keys(used))
}

// checkPathLists checks the three functions that do not ask for a grid.
func checkPathLists(t *testing.T, ways []impl.Way) {
	t.Helper()
	if got, want := impl.MovesOf(ways), plainMovesOf(ways); got != want {
		t.Errorf("MovesOf(%v) = %d, want %d", ways, got, want)
	}
	if got, want := impl.EndsOf(ways), plainEndsOf(ways); !slices.Equal(got, want) {
		t.Errorf("EndsOf(%v) = %v, want %v", ways, got, want)
	}
	if got, want := impl.CellsUsed(ways), plainCellsUsed(ways); !slices.Equal(got, want) {
		t.Errorf("CellsUsed(%v) = %v, want %v", ways, got, want)
	}
}

// checkPaths checks FlowFor for any paths of a valid problem, and tells whether robots can follow them. For those paths it checks all functions.
func (n wayNet) checkPaths(t *testing.T, ways []impl.Way) bool {
	t.Helper()
	flow, ok := n.flowFor(ways)
	if !n.plainWaysOk(ways) {
		if ok || len(flow) != 0 {
			t.Errorf("FlowFor(%+v) of %v = %v and %v", n.ask, ways, flow, ok)
		}
		return false
	}
	want := n.plainFlow(ways)
	if !ok || !slices.Equal(flow, want) {
		t.Errorf("FlowFor(%+v) of %v = %v and %v, want %v", n.ask, ways, flow, ok, want)
	}
	if !plainFlowOk(n.net, want) || plainSize(n.net, want) != len(n.starts) {
		t.Errorf("the paths %v of %+v give no flow of their number: %v", ways, n.ask, want)
	}
	if rest := len(n.starts) - len(n.goals); len(flow) != len(want) || flow[len(want)-1] != rest {
		t.Errorf("the flow %v of the paths %v of %+v does not end with %d units", flow, ways, n.ask, rest)
	}
	net, _ := n.ask.net(false)
	if cost, moves := impl.FlowCost(net, flow), impl.MovesOf(ways); cost != moves {
		t.Errorf("the flow of the paths %v of %+v has the cost %d, and MovesOf is %d", ways, n.ask, cost, moves)
	}
	if again, ok := n.waysOf(want); !ok || !sameWays(again, ways) {
		t.Errorf("WaysOf(%+v) of %v = %v and %v, want %v", n.ask, want, again, ok, ways)
	}
	checkPathLists(t, ways)
	return true
}

// checkUnits checks WaysOf for any list of a valid problem, and tells whether it is a flow with a unit for each start.
func (n wayNet) checkUnits(t *testing.T, flow []int) bool {
	t.Helper()
	ways, ok := n.waysOf(flow)
	if !plainFlowOk(n.net, flow) || plainSize(n.net, flow) != len(n.starts) {
		if ok || len(ways) != 0 {
			t.Errorf("WaysOf(%+v) of %v = %v and %v", n.ask, flow, ways, ok)
		}
		return false
	}
	// Of all paths that robots can follow, only those of this flow lead over the same arcs.
	if !ok || !n.plainWaysOk(ways) || !slices.Equal(n.plainFlow(ways), flow) {
		t.Errorf("WaysOf(%+v) of %v = %v and %v", n.ask, flow, ways, ok)
		return true
	}
	return n.checkPaths(t, ways)
}

func TestWaysExample(t *testing.T) {
	a := ask{gridWith("..."), []int{0, 1}, []int{2}, 1}
	ways := pathsIn(t, "0 1, 1 2")
	if moves, ends, cells := impl.MovesOf(ways), impl.EndsOf(ways), impl.CellsUsed(ways); moves != 2 || !slices.Equal(ends, []int{1, 2}) || !slices.Equal(cells, []int{0, 1, 2}) {
		t.Errorf("the example has %d moves, the ends %v and the cells %v", moves, ends, cells)
	}
	for _, goals := range [][]int{nil, {1}, {2}, {1, 2}} {
		n := ask{a.g, a.starts, goals, 1}.wayNet()
		if !n.checkPaths(t, ways) {
			t.Errorf("robots cannot follow the paths of the example to %v", goals)
		}
	}
}

// wayCase is a flow, with one digit for each arc, and the same flow as paths.
type wayCase struct {
	name string
	a    ask
	flow string
	ways string
}

// Whole flows, written out by hand. The arcs of each node are set apart by spaces, as are those from node 0 and the last ones.
func wayCases() []wayCase {
	one, two, three, square := gridWith("."), gridWith(".."), gridWith("..."), gridWith("..", "..")
	return []wayCase{
		{"one cell, span 0, no goals", ask{one, []int{0}, nil, 0}, "1 1 1 1", "0"},
		{"one cell, span 0, a goal", ask{one, []int{0}, []int{0}, 0}, "1 1 1 0", "0"},
		{"span 0, two starts", ask{gridWith("..#."), []int{0, 3}, []int{3}, 0}, "11 1 0 1 1 0 1 1", "0, 3"},
		{"waits", ask{one, []int{0}, []int{0}, 2}, "1 11 11 1 1 0", "0 0 0"},
		{"waits where it could move", ask{two, []int{0}, nil, 1}, "1 110 000 1 0 1 0 1", "0 0"},
		{"moves", ask{two, []int{0}, []int{1}, 1}, "1 101 000 0 1 0 1 0", "0 1"},
		{"moves, no goals", ask{two, []int{0}, nil, 1}, "1 101 000 0 1 0 1 1", "0 1"},
		{"moves to the left", ask{two, []int{1}, []int{0}, 1}, "1 000 101 1 0 1 0 0", "1 0"},
		{"two robots wait", ask{two, []int{0, 1}, []int{0, 1}, 1}, "11 110 110 1 1 1 1 0", "0 0, 1 1"},
		{"two robots exchange their cells", ask{two, []int{0, 1}, []int{0, 1}, 1}, "11 101 101 1 1 1 1 0", "0 1, 1 0"},
		{"two robots exchange their cells, one goal", ask{two, []int{0, 1}, []int{1}, 1}, "11 101 101 1 1 1 1 1", "0 1, 1 0"},
		{"two robots exchange their cells, no goals", ask{two, []int{0, 1}, nil, 1}, "11 101 101 1 1 1 1 2", "0 1, 1 0"},
		{"one robot follows another one", ask{three, []int{0, 1}, []int{2}, 1}, "11 101 1001 000 0 1 1 0 1 1 1", "0 1, 1 2"},
		{"one robot follows another one, to goals", ask{three, []int{0, 1}, []int{1, 2}, 1}, "11 101 1001 000 0 1 1 0 1 1 0", "0 1, 1 2"},
		{"one robot follows another one to the left", ask{three, []int{1, 2}, []int{0, 1}, 1}, "11 000 1010 101 1 1 0 1 1 0 0", "1 0, 2 1"},
		{"waits, then moves", ask{three, []int{0, 1}, []int{2}, 2}, "11 110 1001 000 101 0000 110 0 1 1 0 1 1 1", "0 0 1, 1 2 2"},
		{"one robot comes to the cell of the other one", ask{three, []int{0, 1}, []int{0, 2}, 2}, "11 101 1010 000 110 1001 000 1 0 1 1 0 1 0", "0 1 2, 1 0 0"},
		{"there and back", ask{three, []int{1}, []int{1}, 2}, "1 000 1001 000 000 0000 101 0 1 0 0 1 0 0", "1 2 1"},
		{"four robots in a ring", ask{square, []int{0, 1, 2, 3}, nil, 1}, "1111 1010 1001 1010 1001 1 1 1 1 1 1 1 1 4", "0 1, 1 3, 2 0, 3 2"},
		{"a blocked cell", ask{gridWith("#.", ".."), []int{1, 2}, []int{3}, 1}, "11 101 110 0000 0 1 1 0 1 1 1", "1 3, 2 2"},
	}
}

func TestWaysTables(t *testing.T) {
	for _, c := range wayCases() {
		flow, ways := unitsIn(strings.ReplaceAll(c.flow, " ", "")), pathsIn(t, c.ways)
		if got, ok := c.a.waysOf(flow); !ok || !sameWays(got, ways) {
			t.Errorf("%s: WaysOf(%+v) of %s = %v and %v, want %s", c.name, c.a, c.flow, got, ok, c.ways)
		}
		if got, ok := c.a.flowFor(ways); !ok || !slices.Equal(got, flow) {
			t.Errorf("%s: FlowFor(%+v) of %s = %v and %v, want %s", c.name, c.a, c.ways, got, ok, c.flow)
		}
		if n := c.a.wayNet(); !n.checkPaths(t, ways) || !n.checkUnits(t, flow) {
			t.Errorf("%s: the test finds a fault in %s", c.name, c.ways)
		}
	}
}

// waits are the paths of robots that stay at their starts.
func (a ask) waits() []impl.Way {
	var ways []impl.Way
	for _, c := range a.starts {
		ways = append(ways, impl.Way{Cells: slices.Repeat([]int{c}, max(0, a.span+1))})
	}
	return ways
}

// checkNoWays checks what the functions return for a problem that is not valid, even if the paths or the flow suit it otherwise.
func checkNoWays(t *testing.T, name string, a ask, ways []impl.Way, flow []int) {
	t.Helper()
	if got, ok := a.flowFor(ways); ok || len(got) != 0 {
		t.Errorf("%s: FlowFor(%+v) of %v = %v and %v", name, a, ways, got, ok)
	}
	for _, list := range [][]int{flow, make([]int, len(flow)), nil} {
		if got, ok := a.waysOf(list); ok || len(got) != 0 {
			t.Errorf("%s: WaysOf(%+v) of %v = %v and %v", name, a, list, got, ok)
		}
	}
}

// waitAsk is a problem in which robots only need to wait.
var waitAsk = ask{gridWith("..#", "..."), []int{0, 1}, []int{1}, 2}

// Problems that are not valid, for one reason each, and in which robots would only need to wait otherwise.
func badAsks() []badAsk {
	g, big := waitAsk.g, squareOfFour()
	free := freeCellsOf(big)
	return []badAsk{
		{"no starts", ask{g, nil, nil, 2}},
		{"no starts, span 0", ask{g, nil, nil, 0}},
		{"no starts, a goal", ask{g, nil, []int{1}, 2}},
		{"MaxRobots+1 starts", ask{big, free[:impl.MaxRobots+1], nil, 2}},
		{"MaxRobots+1 starts that are the goals", ask{big, free[:impl.MaxRobots+1], free[:impl.MaxRobots+1], 2}},
		{"starts descend", ask{g, []int{1, 0}, []int{1}, 2}},
		{"last two starts descend", ask{g, []int{0, 3, 1}, nil, 2}},
		{"start twice", ask{g, []int{1, 1}, []int{1}, 2}},
		{"only start blocked", ask{g, []int{2}, nil, 2}},
		{"last start blocked", ask{g, []int{1, 2}, []int{1}, 2}},
		{"start negative", ask{g, []int{-1, 1}, []int{1}, 2}},
		{"start past the grid", ask{g, []int{1, 6}, []int{1}, 2}},
		{"goals descend", ask{g, []int{0, 1}, []int{1, 0}, 2}},
		{"goal twice", ask{g, []int{0, 1}, []int{1, 1}, 2}},
		{"goal blocked", ask{g, []int{0, 1}, []int{2}, 2}},
		{"goal negative", ask{g, []int{0, 1}, []int{-1}, 2}},
		{"goal past the grid", ask{g, []int{0, 1}, []int{1, 6}, 2}},
		{"two goals, one start", ask{g, []int{0}, []int{0, 1}, 2}},
		{"span MaxSpan+1", ask{g, []int{0, 1}, []int{1}, impl.MaxSpan + 1}},
		{"too many layers", ask{big, free[:2], []int{1}, 15}},
	}
}

// Robots that wait on a grid that is valid, with the network that the chapter would describe.
func TestWaysWithoutProblem(t *testing.T) {
	if n := waitAsk.wayNet(); !n.checkPaths(t, waitAsk.waits()) {
		t.Fatalf("robots cannot wait in %+v", waitAsk)
	}
	for _, c := range badAsks() {
		n := c.a.wayNet()
		checkNoWays(t, c.name, c.a, c.a.waits(), n.plainFlow(c.a.waits()))
	}
	for _, span := range []int{-1, -2, math.MinInt, math.MaxInt, 1<<62 - 1} {
		a := waitAsk.at(span)
		for _, ways := range [][]impl.Way{nil, make([]impl.Way, 2), waitAsk.waits()} {
			checkNoWays(t, "span out of its range", a, ways, waitAsk.wayNet().plainFlow(waitAsk.waits()))
		}
	}
}

func TestWaysOfInvalidGrids(t *testing.T) {
	for _, g := range invalidGrids() {
		for _, span := range []int{0, 1} {
			// On a valid grid of a single cell, or of a row of cells, these would be the paths and the flows.
			for _, cells := range []int{1, 2, 3, 6, impl.MaxSide + 1} {
				valid := ask{gridOf(cells), []int{0}, nil, span}
				checkNoWays(t, "invalid grid", ask{g, valid.starts, nil, span}, valid.waits(), valid.wayNet().plainFlow(valid.waits()))
			}
		}
	}
}

// Problems with two robots, in which both, one of them or none must come to a goal.
var (
	oneGoal  = ask{gridWith("..#", "..."), []int{0, 1}, []int{4}, 2}
	twoGoals = ask{gridWith("..#", "..."), []int{0, 1}, []int{3, 4}, 2}
	noGoals  = ask{gridWith("..#", "..."), []int{0, 1}, nil, 2}
	moreRows = ask{gridWith("...", "...", "..."), []int{2, 4}, []int{4}, 2}
)

func TestFlowForWithoutFaults(t *testing.T) {
	for _, c := range []struct {
		a    ask
		ways []string
	}{
		{oneGoal, []string{"0 3 4, 1 1 1", "0 3 3, 1 1 4", "0 3 0, 1 4 4", "0 1 0, 1 4 4", "0 1 4, 1 0 3"}},
		{twoGoals, []string{"0 3 4, 1 0 3", "0 3 3, 1 1 4", "0 1 4, 1 0 3", "0 0 3, 1 4 4"}},
		{noGoals, []string{"0 0 0, 1 1 1", "0 3 4, 1 1 1", "0 3 3, 1 4 5", "0 1 0, 1 0 1"}},
		{moreRows, []string{"2 2 2, 4 4 4", "2 1 1, 4 3 4", "2 5 4, 4 4 3"}},
	} {
		for _, ways := range c.ways {
			if !c.a.wayNet().checkPaths(t, pathsIn(t, ways)) {
				t.Errorf("robots cannot follow %s in %+v", ways, c.a)
			}
		}
	}
}

// wayFault is a list of paths with one fault, and its code as a plan.
type wayFault struct {
	name string
	a    ask
	ways string
	code int
}

// Each fault alone, for the same problems.
func wayFaults() []wayFault {
	return []wayFault{
		{"no paths", noGoals, "", impl.PnForm},
		{"fewer paths than starts", oneGoal, "0 3 4", impl.PnForm},
		{"fewer paths than starts, no goals", noGoals, "0 0 0", impl.PnForm},
		{"fewer paths than starts, the last one", noGoals, "1 1 1", impl.PnForm},
		{"more paths than starts", oneGoal, "0 3 4, 1 1 1, 5 5 5", impl.PnForm},
		{"more paths than starts, the last one without cells", oneGoal, "0 3 4, 1 1 1,", impl.PnForm},
		{"more paths than starts, the same one twice", noGoals, "0 0 0, 1 1 1, 1 1 1", impl.PnForm},
		{"paths in another order", oneGoal, "1 1 1, 0 3 4", impl.PnForm},
		{"paths in another order, no goals", noGoals, "1 1 1, 0 0 0", impl.PnForm},
		{"first path begins elsewhere", oneGoal, "3 3 4, 1 1 1", impl.PnForm},
		{"last path begins elsewhere", oneGoal, "0 3 4, 5 5 5", impl.PnForm},
		{"path begins at a blocked cell", noGoals, "0 0 0, 2 1 1", impl.PnForm},
		{"path begins at a negative number", noGoals, "-1 0 0, 1 1 1", impl.PnForm},
		{"path begins past the grid", noGoals, "0 0 0, 6 1 1", impl.PnForm},
		{"path begins far below 0", noGoals, "-9223372036854775808 0 0, 1 1 1", impl.PnForm},
		{"first path with a cell too few", oneGoal, "0 3, 1 4 4", impl.PnForm},
		{"last path with a cell too few", oneGoal, "0 3 4, 1 1", impl.PnForm},
		{"both paths with a cell too few", noGoals, "0 0, 1 1", impl.PnForm},
		{"first path with a cell too many", oneGoal, "0 3 4 4, 1 1 1", impl.PnForm},
		{"last path with a cell too many", oneGoal, "0 3 4, 1 1 1 1", impl.PnForm},
		{"both paths with a cell too many", noGoals, "0 0 0 0, 1 1 1 1", impl.PnForm},
		{"first path without cells", oneGoal, ", 1 4 4", impl.PnForm},
		{"last path without cells", oneGoal, "0 3 4,", impl.PnForm},
		{"all paths without cells", noGoals, ",", impl.PnForm},
		{"paths with the start alone", noGoals, "0, 1", impl.PnForm},
		{"first step to a cell that is not adjacent", oneGoal, "0 4 4, 1 1 1", impl.PnStep},
		{"last step to a cell that is not adjacent", oneGoal, "0 0 4, 1 1 1", impl.PnStep},
		{"last step to a cell that is not adjacent, no goals", noGoals, "0 0 0, 1 1 3", impl.PnStep},
		{"step over a cell", noGoals, "0 3 5, 1 1 1", impl.PnStep},
		{"step from the end of a row to the beginning of the next one", moreRows, "2 2 3, 4 4 4", impl.PnStep},
		{"step from the beginning of a row to the end of the one above", moreRows, "2 1 4, 4 3 2", impl.PnStep},
		{"both paths step to the next cell of the other one", noGoals, "0 0 4, 1 1 3", impl.PnStep},
		{"step to a blocked cell at the end", noGoals, "0 0 0, 1 1 2", impl.PnStep},
		{"step to a blocked cell in the middle", noGoals, "0 0 0, 1 2 1", impl.PnStep},
		{"step to a negative number at the end", noGoals, "0 0 -1, 1 1 1", impl.PnStep},
		{"step to a negative number in the middle", oneGoal, "0 -1 0, 1 1 4", impl.PnStep},
		{"step above the first row", noGoals, "0 -3 0, 1 1 1", impl.PnStep},
		{"step far below 0", noGoals, "0 0 -9223372036854775808, 1 1 1", impl.PnStep},
		{"step past the grid at the end", noGoals, "0 0 0, 1 4 7", impl.PnStep},
		{"step past the grid in the middle", noGoals, "0 0 0, 1 6 1", impl.PnStep},
		{"step to the cell after the last one", ask{noGoals.g, []int{0, 5}, nil, 2}, "0 0 0, 5 5 6", impl.PnStep},
		{"step far past the grid", noGoals, "0 9223372036854775807 0, 1 1 1", impl.PnStep},
		{"the same cell at the beginning", noGoals, "0 0 0, 0 1 1", impl.PnForm},
		{"the same cell at the beginning, later ones differ", oneGoal, "1 4 4, 1 1 1", impl.PnForm},
		{"the same cell in the middle", oneGoal, "0 1 0, 1 1 4", impl.PnMeet},
		{"the same cell in the middle, from both sides", moreRows, "2 1 2, 4 1 4", impl.PnMeet},
		{"the same cell at the end", noGoals, "0 0 0, 1 1 0", impl.PnMeet},
		{"the same cell at the end, which is the goal", oneGoal, "0 3 4, 1 4 4", impl.PnMeet},
		{"the same cell at all times", noGoals, "0 0 0, 0 0 0", impl.PnForm},
		{"the goal remains without a robot", oneGoal, "0 0 0, 1 1 1", impl.PnGoal},
		{"the goal remains without a robot that has passed it", oneGoal, "0 3 3, 1 4 1", impl.PnGoal},
		{"two goals, one remains without a robot", twoGoals, "0 0 0, 1 1 4", impl.PnGoal},
		{"two goals, the other one remains without a robot", twoGoals, "0 3 3, 1 1 1", impl.PnGoal},
		{"two goals, both remain without a robot", twoGoals, "0 0 0, 1 1 1", impl.PnGoal},
	}
}

func TestFlowForFaults(t *testing.T) {
	for _, c := range wayFaults() {
		if !c.a.ok() {
			t.Fatalf("%s: AskOk(%+v) is false", c.name, c.a)
		}
		if c.a.wayNet().checkPaths(t, pathsIn(t, c.ways)) {
			t.Errorf("%s: the test finds no fault in %s", c.name, c.ways)
		}
	}
}

// Each fault alone, in a flow of whole units. The arcs of "..." with span 1 and two starts are: two from node 0; three, four and three from
// the nodes of the cells at time 0, of which the first one leads to the out node and the second one to the same cell; three at time 1; three to the end; and the last one.
func TestWaysOfFaults(t *testing.T) {
	a := ask{gridWith("..."), []int{0, 1}, []int{2}, 1}
	two := ask{gridWith("..."), []int{0, 1}, nil, 1}
	all := ask{gridWith("..."), []int{0, 1}, []int{1, 2}, 1}
	cases := []struct {
		name string
		a    ask
		flow string
	}{
		{"no numbers", a, ""},
		{"a number too few", a, "11 101 1001 000 011 011"},
		{"a number too few, it was 0", all, "11 101 1001 000 011 011"},
		{"a number too many", a, "11 101 1001 000 011 011 10"},
		{"a number too many, a unit", a, "11 101 1001 000 011 011 11"},
		{"the first number is missing", a, "1 101 1001 000 011 011 1"},
		{"no units", a, "00 000 0000 000 000 000 0"},
		{"no units, no goals", two, "00 000 0000 000 000 000 0"},
		{"one unit, to the goal", a, "01 000 1001 000 001 001 0"},
		{"one unit, not to the goal", a, "01 000 1100 000 010 010 1"},
		{"one unit, from the first start", a, "10 101 0000 000 010 010 1"},
		{"one unit, as many goals as starts", all, "10 101 0000 000 010 010 0"},
		{"a unit appears at an in node", a, "10 101 1001 000 011 011 1"},
		{"a unit disappears at an out node", a, "11 100 1001 000 001 001 0"},
		{"a unit disappears at an in node", a, "11 101 1001 000 001 001 0"},
		{"a unit appears at an in node of time 1", a, "01 000 1001 000 011 011 1"},
		{"a unit disappears at the last time", a, "11 101 1001 000 011 001 0"},
		{"a unit disappears at node 2", a, "11 101 1001 000 011 011 0"},
		{"a unit appears at node 2", a, "11 110 1001 000 101 001 1"},
		{"a unit from an empty cell, not counted as a start", a, "11 101 1001 101 011 011 1"},
		{"two units from one start", two, "20 211 0000 000 110 110 2"},
		{"two units in the same cell at time 1", two, "11 101 1100 000 020 020 2"},
		{"two units at the goal", a, "11 101 1100 000 020 020 2"},
		{"two units over node 2, where one goal remains without a robot", a, "11 110 1100 000 110 110 2"},
		{"a unit over node 2, where no robot can remain", all, "11 110 1001 000 101 101 1"},
	}
	for _, c := range cases {
		if !c.a.ok() {
			t.Fatalf("%s: AskOk(%+v) is false", c.name, c.a)
		}
		if c.a.wayNet().checkUnits(t, unitsIn(strings.ReplaceAll(c.flow, " ", ""))) {
			t.Errorf("%s: the test finds no fault in %s", c.name, c.flow)
		}
	}
}

// Numbers below 0 and above the Room of their arcs that leave the inflow of each node equal to its outflow.
func TestWaysOfBalancedFaults(t *testing.T) {
	a := ask{gridWith("..", "##", ".."), []int{4, 5}, []int{4}, 1}
	n := a.wayNet()
	base := n.plainFlow(a.waits())
	if !n.checkUnits(t, base) {
		t.Fatalf("robots cannot wait in %+v", a)
	}
	in, next := impl.InNode(a.g, 0, 0), impl.InNode(a.g, 0, 1)
	with := func(units map[[2]int]int) []int {
		flow := slices.Clone(base)
		for ends, more := range units {
			place := slices.IndexFunc(n.net.Arcs, func(arc impl.Arc) bool { return arc.From == ends[0] && arc.To == ends[1] })
			flow[place] += more
		}
		return flow
	}
	// Both cells of the first row are empty: what waits in one and the other is taken back by two robots that exchange them.
	stay0, stay1, go01, go10 := [2]int{in + 1, next}, [2]int{in + 3, next + 2}, [2]int{in + 1, next + 2}, [2]int{in + 3, next}
	for _, units := range []int{1, -1, 2, -2} {
		if n.checkUnits(t, with(map[[2]int]int{stay0: units, stay1: units, go01: -units, go10: -units})) {
			t.Errorf("%d units in the empty cells are a flow", units)
		}
	}
	// The same between the cells of the robots, where one of the four numbers is 1: an exchange that is taken back twice.
	in, next = impl.InNode(a.g, 4, 0), impl.InNode(a.g, 4, 1)
	stay0, stay1, go01, go10 = [2]int{in + 1, next}, [2]int{in + 3, next + 2}, [2]int{in + 1, next + 2}, [2]int{in + 3, next}
	for units, want := range map[int]bool{-1: true, 0: true, 1: false, -2: false} {
		if got := n.checkUnits(t, with(map[[2]int]int{stay0: units, stay1: units, go01: -units, go10: -units})); got != want {
			t.Errorf("%d units more that wait are a flow: %v", units, got)
		}
	}
	for _, flow := range notFlows(n.net, base) {
		n.checkUnits(t, flow)
	}
}

// eachWays visits all paths by which robots can go from their starts without a meeting, whatever their goals are.
func eachWays(a ask, visit func(ways []impl.Way)) {
	ways := make([]impl.Way, len(a.starts))
	var place func(i int)
	place = func(i int) {
		if i == len(ways)*(a.span+1) {
			visit(ways)
			return
		}
		robot := i % len(ways)
		cells := []int{a.starts[robot]}
		if path := ways[robot].Cells; len(path) > 0 {
			last := path[len(path)-1]
			cells = append(plainAround(a.g, last), last)
		}
		for _, c := range cells {
			time := len(ways[robot].Cells)
			if slices.ContainsFunc(ways[:robot], func(w impl.Way) bool { return w.Cells[time] == c }) {
				continue
			}
			ways[robot].Cells = append(ways[robot].Cells, c)
			place(i + 1)
			ways[robot].Cells = ways[robot].Cells[:time]
		}
	}
	place(0)
}

// problemsOn has all starts, up to the given number, and all goals on a grid.
func problemsOn(g impl.Grid, robots int, span int) []ask {
	var asks []ask
	free := freeCellsOf(g)
	for _, starts := range partsOf(free, min(robots, len(free))) {
		for _, goals := range partsOf(free, len(starts)) {
			if len(starts) > 0 {
				asks = append(asks, ask{g, starts, goals, span})
			}
		}
	}
	return asks
}

// Promise 11: all paths of robots on small grids, and no paths to other goals.
func TestWaysOfAllPaths(t *testing.T) {
	cases := []struct {
		g            impl.Grid
		robots, span int
	}{
		{gridWith("."), 1, 4}, {gridWith(".."), 2, 4}, {gridWith(".#."), 2, 3}, {gridWith("..."), 3, 2}, {gridWith(".", ".", "."), 2, 3},
		{gridWith("..", "#."), 3, 3}, {gridWith("..", ".."), 4, 2}, {gridWith("..", ".."), 2, 3}, {gridWith("....."), 5, 1}, {gridWith("#.#", "...", "#.#"), 3, 1},
		{gridWith("aA.", "B#f"), 3, 1}, {gridWith("..", "..", ".."), 2, 1}, {gridWith("...", "..."), 4, 0},
	}
	can, cannot := 0, 0
	for _, c := range cases {
		for _, a := range problemsOn(c.g, c.robots, c.span) {
			n := a.wayNet()
			eachWays(a, func(ways []impl.Way) {
				if n.checkPaths(t, ways) {
					can++
				} else {
					cannot++
				}
			})
		}
	}
	if can < 10000 || cannot < 10000 {
		t.Errorf("only %d times robots can follow their paths, and %d times they cannot", can, cannot)
	}
}

// All lists of numbers, among them cells outside of the grid, as paths: of as many as there are starts, and with as many cells as there are times.
func TestFlowForAllLists(t *testing.T) {
	can, cannot := 0, 0
	for _, c := range []struct {
		g            impl.Grid
		robots, span int
	}{{gridWith(".."), 2, 2}, {gridWith("."), 1, 3}, {gridWith(".#"), 1, 2}, {gridWith("..", ".."), 2, 1}, {gridWith("...", "##."), 1, 3}, {gridWith("..."), 3, 0}, {gridWith("..#", ".#."), 2, 1}} {
		for _, a := range problemsOn(c.g, c.robots, c.span) {
			n := a.wayNet()
			for _, list := range listsFrom(-1, len(a.g.Cells), len(a.starts)*(a.span+1)) {
				var ways []impl.Way
				for cells := range slices.Chunk(list, a.span+1) {
					ways = append(ways, impl.Way{Cells: cells})
				}
				if n.checkPaths(t, ways) {
					can++
				} else {
					cannot++
				}
			}
		}
	}
	if can < 300 || cannot < 100000 {
		t.Errorf("only %d lists are paths that robots can follow, and %d are not", can, cannot)
	}
}

// someUnits has each list with numbers from least to one above the Room of its arc; but only the last arc has 2 if least is 0.
func someUnits(n impl.Net, least int) [][]int {
	lists := [][]int{nil}
	for i, a := range n.Arcs {
		most := a.Room + 1
		if least == 0 && i < len(n.Arcs)-1 {
			most = a.Room
		}
		var longer [][]int
		for _, list := range lists {
			for units := least; units <= most; units++ {
				longer = append(longer, append(slices.Clone(list), units))
			}
		}
		lists = longer
	}
	return lists
}

// All lists of numbers as flows of small networks. There are as many flows with a unit for each start as there are paths of robots to the goals.
func TestWaysOfAllFlows(t *testing.T) {
	for _, c := range []struct {
		g            impl.Grid
		robots, span int
		least        int
	}{
		{gridWith("."), 1, 0, -1}, {gridWith("."), 1, 1, -1}, {gridWith("#."), 1, 2, -1}, {gridWith(".#."), 2, 0, -1}, {gridWith(".."), 2, 0, -1},
		{gridWith(".."), 2, 1, 0}, {gridWith(".", "#", "."), 2, 1, 0},
	} {
		for _, a := range problemsOn(c.g, c.robots, c.span) {
			n := a.wayNet()
			flows, paths := 0, 0
			for _, list := range someUnits(n.net, c.least) {
				if n.checkUnits(t, list) {
					flows++
				}
			}
			eachWays(a, func(ways []impl.Way) {
				if a.plainWaysOk(ways) {
					paths++
				}
			})
			if flows != paths {
				t.Errorf("%+v has %d flows with a unit for each start, and %d paths", a, flows, paths)
			}
		}
	}
}
