package tests

import (
	"math"
	"slices"
	"testing"

	"loop.example/g00961/impl"
)

// oneStep has, for robots on the given cells, cells one step later, chosen at random: robots wait, move, follow one another,
// and exchange their cells, two of them or a ring.
func oneStep(s *numbers, around [][]int, from []int) []int {
	to := slices.Clone(from)
	for range 3 * len(from) {
		robot := s.below(len(from))
		if len(around[from[robot]]) == 0 {
			continue
		}
		next := around[from[robot]][s.below(len(around[from[robot]]))]
		other := slices.Index(to, next)
		switch {
		case other == -1:
			to[robot] = next
		case to[robot] == from[other] || slices.Contains(around[from[other]], to[robot]):
			to[robot], to[other] = next, to[robot]
		}
	}
	return to
}

// wander has paths from the starts that never meet.
func wander(s *numbers, a ask) []impl.Way {
	around := make([][]int, len(a.g.Cells))
	for c := range around {
		around[c] = plainAround(a.g, c)
	}
	ways, stand := make([]impl.Way, len(a.starts)), a.starts
	for t := range a.span + 1 {
		if t > 0 {
			stand = oneStep(s, around, stand)
		}
		for i, c := range stand {
			ways[i].Cells = append(ways[i].Cells, c)
		}
	}
	return ways
}

// crossingsIn counts the pairs of paths that exchange their cells, and the paths that come to a cell that another one leaves.
func crossingsIn(ways []impl.Way) (int, int) {
	exchanges, follows := 0, 0
	for _, v := range ways {
		for _, w := range ways {
			for t := 1; t < len(v.Cells); t++ {
				if v.Cells[t] == w.Cells[t-1] && v.Cells[t] != v.Cells[t-1] {
					follows++
					if w.Cells[t] == v.Cells[t-1] {
						exchanges++
					}
				}
			}
		}
	}
	return exchanges / 2, follows
}

// spoiled has paths that differ from the given ones in one place, in their order, or in their number.
func spoiled(s *numbers, ways []impl.Way, cells int) []impl.Way {
	ways = cloneWays(ways)
	robot := s.below(len(ways))
	path := ways[robot].Cells
	time := s.below(len(path))
	switch s.below(8) {
	case 0:
		return append(ways, ways[robot])
	case 1:
		return slices.Delete(ways, robot, robot+1)
	case 2:
		other := s.below(len(ways))
		ways[robot], ways[other] = ways[other], ways[robot]
	case 3:
		ways[robot].Cells = slices.Insert(path, time, path[time])
	case 4:
		ways[robot].Cells = slices.Delete(path, time, time+1)
	case 5:
		other := ways[s.below(len(ways))].Cells
		path[time] = other[time]
	default:
		path[time] = s.below(cells+2) - 1
	}
	return ways
}

// spoiledFlow has a list that differs from a flow in one number, in a unit that is nowhere, or in its length.
func spoiledFlow(s *numbers, n wayNet, ways []impl.Way) []int {
	flow := n.plainFlow(ways)
	place := s.below(len(flow))
	switch s.below(5) {
	case 0:
		return slices.Insert(flow, place, s.below(2))
	case 1:
		return slices.Delete(flow, place, place+1)
	case 2:
		robot := s.below(len(ways))
		return n.plainFlow(slices.Delete(cloneWays(ways), robot, robot+1))
	case 3:
		flow[place]++
	case 4:
		flow[place]--
	}
	return flow
}

// someEnds has goals for paths: some of their ends, or once in a while cells at which not all of them may end.
func someEnds(s *numbers, a ask, ways []impl.Way) []int {
	count := s.below(len(ways) + 1)
	if s.below(4) == 0 {
		return someOf(s, freeCellsOf(a.g), count)
	}
	return someOf(s, plainEndsOf(ways), count)
}

// wayGrids has the grids on which paths are chosen at random.
func wayGrids() []impl.Grid {
	grids := append(mixedGrids(), validGrids()...)
	return append(grids, rowOfFive(), longestGrid(), turningGrid(), squareOfFour(), gridWith("."), gridWith("...", ".#.", "..."), gridWith(".....", "....."))
}

// Promise 11, with paths chosen at random on grids of all sizes, and with one fault in them and in their flow.
func TestWaysOfSomePaths(t *testing.T) {
	s := numbers(11)
	can, cannot, faults, exchanges, follows := 0, 0, 0, 0, 0
	for _, g := range wayGrids() {
		for _, a := range asksOn(&s, g, 0, 1, 2, 5, 11, 20) {
			ways := wander(&s, a)
			a.goals = someEnds(&s, a, ways)
			n := a.wayNet()
			if !n.checkPaths(t, ways) {
				cannot++
				continue
			}
			can++
			for range 6 {
				if !n.checkPaths(t, spoiled(&s, ways, len(g.Cells))) {
					faults++
				}
				if !n.checkUnits(t, spoiledFlow(&s, n, ways)) {
					faults++
				}
			}
			pairs, steps := crossingsIn(ways)
			exchanges, follows = exchanges+pairs, follows+steps
		}
	}
	if can < 300 || cannot < 30 || faults < 3000 || exchanges < 500 || follows < 2000 {
		t.Errorf("only %d paths that robots can follow and %d that they cannot, %d faults, %d exchanges of cells, %d steps to the cell of another robot", can, cannot, faults, exchanges, follows)
	}
}

// checkCheapPaths checks the paths of the flow of Cheapest for a problem, and tells whether there is one. Fewer units have no paths.
func checkCheapPaths(t *testing.T, a ask) bool {
	t.Helper()
	net, _ := a.net(false)
	n := a.wayNet()
	for size := range len(a.starts) {
		if flow, _, ok := impl.Cheapest(net, size); ok && n.checkUnits(t, flow) {
			t.Errorf("%d units are enough for %+v", size, a)
		}
	}
	flow, cost, ok := impl.Cheapest(net, len(a.starts))
	if ok != a.can() {
		t.Errorf("Cheapest for %+v is %v", a, ok)
	}
	if !ok {
		return false
	}
	ways, ok := a.waysOf(flow)
	if !ok || impl.MovesOf(ways) != cost || !n.plainWaysOk(ways) {
		t.Errorf("the flow of Cheapest for %+v with the cost %d has %d moves: %v and %v", a, cost, impl.MovesOf(ways), ways, ok)
	}
	ends := impl.EndsOf(ways)
	for _, goal := range a.goals {
		if !slices.Contains(ends, goal) {
			t.Errorf("the paths of Cheapest for %+v end at %v", a, ends)
		}
	}
	if again, ok := a.flowFor(ways); !ok || !slices.Equal(again, flow) {
		t.Errorf("FlowFor(%+v) of %v = %v and %v, want %v", a, ways, again, ok, flow)
	}
	return n.checkUnits(t, flow)
}

// Promise 11, with the flows of Cheapest for whole problems.
func TestWaysOfCheapFlows(t *testing.T) {
	s := numbers(1111)
	can, cannot := 0, 0
	check := func(a ask) {
		if checkCheapPaths(t, a) {
			can++
		} else {
			cannot++
		}
	}
	for _, g := range wayGrids() {
		for _, a := range asksOn(&s, g, 0, 1, 2, 5, 9, 20) {
			check(a)
		}
	}
	for _, g := range []impl.Grid{gridWith("..."), gridWith("..", ".."), gridWith("..#", "...")} {
		for span := range 4 {
			for _, a := range problemsOn(g, 3, span) {
				check(a)
			}
		}
	}
	if can < 1000 || cannot < 300 {
		t.Errorf("only %d problems can be solved, and %d cannot", can, cannot)
	}
}

func TestPathListsTables(t *testing.T) {
	least, most := "-9223372036854775808", "9223372036854775807"
	cases := []struct {
		name  string
		ways  string
		moves int
		ends  []int
		cells []int
	}{
		{"no paths", "", 0, nil, nil},
		{"a path without cells", " ", 0, nil, nil},
		{"paths without cells", ",,", 0, nil, nil},
		{"one cell", "5", 0, []int{5}, []int{5}},
		{"the cell 0", "0", 0, []int{0}, []int{0}},
		{"a robot that waits", "5 5 5", 0, []int{5}, []int{5}},
		{"one move", "5 6", 1, []int{6}, []int{5, 6}},
		{"one move after waiting", "5 5 6 6", 1, []int{6}, []int{5, 6}},
		{"there and back", "5 6 5", 2, []int{5}, []int{5, 6}},
		{"cells in descending order", "9 8 7", 2, []int{7}, []int{7, 8, 9}},
		{"a cell that occurs several times in a path", "4 4 2 4 2 2 3", 4, []int{3}, []int{2, 3, 4}},
		{"the last cell occurs before", "1 2 3 2", 3, []int{2}, []int{1, 2, 3}},
		{"the ends in ascending order", "1 9, 2 3, 4 6", 3, []int{3, 6, 9}, []int{1, 2, 3, 4, 6, 9}},
		{"the ends as numbers, not as texts", "10, 9, 100", 0, []int{9, 10, 100}, []int{9, 10, 100}},
		{"the same end twice", "1 3, 2 3", 2, []int{3}, []int{1, 2, 3}},
		{"the same end twice, another one between", "7, 3, 7", 0, []int{3, 7}, []int{3, 7}},
		{"an end that another path passes", "1 2, 2 1", 2, []int{1, 2}, []int{1, 2}},
		{"the same path twice", "1 2 2, 1 2 2", 2, []int{2}, []int{1, 2}},
		{"paths without cells between others", ",4 5,,1,", 1, []int{1, 5}, []int{1, 4, 5}},
		{"one cell after a longer path", "1 2 3, 4", 2, []int{3, 4}, []int{1, 2, 3, 4}},
		{"paths of different lengths", "8, 1 2, 5 5 4 3", 3, []int{2, 3, 8}, []int{1, 2, 3, 4, 5, 8}},
		{"no move from a path to the next one", "1, 2, 3", 0, []int{1, 2, 3}, []int{1, 2, 3}},
		{"cells that are not adjacent", "0 63 7", 2, []int{7}, []int{0, 7, 63}},
		{"negative numbers", "-1 -1 -5, 3 -2", 2, []int{-5, -2}, []int{-5, -2, -1, 3}},
		{"a negative number alone", "-1", 0, []int{-1}, []int{-1}},
		{"numbers past a grid", "64 1000, 64", 1, []int{64, 1000}, []int{64, 1000}},
		{"the least and the greatest number", most + " " + least + ", 0 " + most, 2, []int{math.MinInt, math.MaxInt}, []int{math.MinInt, 0, math.MaxInt}},
		{"the least number and 0, whose difference is no int", "0 " + least + " 0", 2, []int{0}, []int{math.MinInt, 0}},
	}
	for _, c := range cases {
		ways := pathsIn(t, c.ways)
		moves, ends, cells := impl.MovesOf(ways), impl.EndsOf(ways), impl.CellsUsed(ways)
		if moves != c.moves || !slices.Equal(ends, c.ends) || !slices.Equal(cells, c.cells) {
			t.Errorf("%s: %s has %d moves, the ends %v and the cells %v, want %d, %v and %v", c.name, c.ways, moves, ends, cells, c.moves, c.ends, c.cells)
		}
		checkPathLists(t, ways)
	}
}

// All lists of at most two paths of at most four cells, and of three paths of at most two cells.
func TestPathListsOfAllPaths(t *testing.T) {
	paths := listsOf([]int{-1, 0, 1}, 4)
	for _, first := range paths {
		checkPathLists(t, []impl.Way{{Cells: first}})
		for _, second := range paths {
			checkPathLists(t, []impl.Way{{Cells: first}, {Cells: second}})
		}
	}
	paths = listsOf([]int{-2, 3, 70}, 2)
	for _, first := range paths {
		for _, second := range paths {
			for _, third := range paths {
				checkPathLists(t, []impl.Way{{Cells: first}, {Cells: second}, {Cells: third}})
			}
		}
	}
}

// More paths, longer ones and greater numbers than any grid allows.
func TestPathListsOfLargePaths(t *testing.T) {
	s := numbers(111)
	for _, count := range []int{1, 2, impl.MaxRobots, impl.MaxRobots + 1, 100} {
		for _, length := range []int{1, impl.MaxSpan + 1, impl.MaxSpan + 2, 500} {
			for _, most := range []int{1, 2, 64, 1 << 31} {
				ways := make([]impl.Way, count)
				for i := range ways {
					for range s.below(length + 1) {
						ways[i].Cells = append(ways[i].Cells, s.below(most)-most/3)
					}
				}
				checkPathLists(t, ways)
			}
		}
	}
}

// checkKnownWays checks paths that robots can follow, and have known moves and ends, for all goals of which some are the first ones of the ends.
func checkKnownWays(t *testing.T, name string, a ask, ways []impl.Way, moves int, ends []int) {
	t.Helper()
	if got := impl.MovesOf(ways); got != moves {
		t.Errorf("%s: MovesOf is %d, want %d", name, got, moves)
	}
	if got := impl.EndsOf(ways); !slices.Equal(got, ends) {
		t.Errorf("%s: EndsOf is %v, want %v", name, got, ends)
	}
	for count := range len(ends) + 1 {
		a.goals = ends[:count]
		if !a.ok() || a.at(a.span+1).ok() {
			t.Fatalf("%s: %+v is not at the limits", name, a)
		}
		n := a.wayNet()
		if flow := n.plainFlow(ways); !n.checkPaths(t, ways) || !n.checkUnits(t, flow) {
			t.Errorf("%s: robots cannot follow %v", name, ways)
		}
		if n.checkPaths(t, ways[1:]) || n.checkPaths(t, append(cloneWays(ways), ways[0])) {
			t.Errorf("%s: the number of the paths makes no difference", name)
		}
		// All paths with one more cell each suit the next span, which is above a limit.
		longer := cloneWays(ways)
		for i := range longer {
			longer[i].Cells = append(longer[i].Cells, longer[i].Cells[a.span])
		}
		above := a.at(a.span + 1)
		checkNoWays(t, name, above, longer, above.wayNet().plainFlow(longer))
	}
	other := slices.IndexFunc(freeCellsOf(a.g), func(c int) bool { return !slices.Contains(ends, c) })
	if other != -1 {
		a.goals = freeCellsOf(a.g)[other:][:1]
		if a.wayNet().checkPaths(t, ways) {
			t.Errorf("%s: the goal %v is reached", name, a.goals)
		}
	}
}

// ringWays has the paths of robots that go around a ring of cells, all in the same direction.
func ringWays(ring []int, starts []int, span int) []impl.Way {
	var ways []impl.Way
	for _, start := range starts {
		var w impl.Way
		for time := range span + 1 {
			w.Cells = append(w.Cells, ring[(slices.Index(ring, start)+time)%len(ring)])
		}
		ways = append(ways, w)
	}
	return ways
}

// downWays has the paths of MaxRobots robots from the first cells of rows of MaxSide, which go down some steps and wait then.
func downWays(steps int, span int) []impl.Way {
	var ways []impl.Way
	for _, start := range cellsFrom(0) {
		var w impl.Way
		for time := range span + 1 {
			w.Cells = append(w.Cells, start+impl.MaxSide*min(time, steps))
		}
		ways = append(ways, w)
	}
	return ways
}

// Problems at the limits with known paths: MaxRobots robots go around a ring of cells, all in the same direction.
func TestWaysAroundLimitRings(t *testing.T) {
	cases := []struct {
		name  string
		g     impl.Grid
		ring  []int
		span  int
		moves int
		ends  []int
	}{
		{"12 cells, MaxLayers layers", gridWith("......", "......"), []int{0, 1, 2, 3, 4, 5, 11, 10, 9, 8, 7, 6}, 19, 190, []int{0, 3, 4, 5, 6, 7, 8, 9, 10, 11}},
		{"12 cells in a square, MaxLayers layers", gridWith("aB..", ".##.", ".##f", "..C."), []int{0, 1, 2, 3, 7, 11, 15, 14, 13, 12, 8, 4}, 19, 190, []int{0, 3, 4, 7, 8, 11, 12, 13, 14, 15}},
		{"10 cells, MaxSpan", gridWith(".....", "....."), []int{0, 1, 2, 3, 4, 9, 8, 7, 6, 5}, 20, 200, []int{0, 1, 2, 3, 4, 5, 6, 7, 8, 9}},
	}
	for _, c := range cases {
		a := ask{g: c.g, starts: freeCellsOf(c.g)[:impl.MaxRobots], span: c.span}
		ways := ringWays(c.ring, a.starts, c.span)
		checkKnownWays(t, c.name, a, ways, c.moves, c.ends)
		if used := impl.CellsUsed(ways); !slices.Equal(used, freeCellsOf(c.g)) {
			t.Errorf("%s: CellsUsed is %v", c.name, used)
		}
	}
}

// Problems at the limits with known paths: MaxRobots robots in the first two rows move down, and wait when they have done so.
func TestWaysDownLimitGrids(t *testing.T) {
	layers := 0
	for _, c := range []struct{ free, span, steps int }{
		{64, 2, 2}, {60, 3, 3}, {48, 4, 4}, {40, 5, 3}, {30, 7, 2}, {24, 9, 1}, {20, 11, 0}, {16, 14, 0}, {15, 15, 0}, {12, 19, 0}, {11, 20, 0}, {10, 20, 0},
	} {
		a := ask{g: gridOf(c.free), starts: cellsFrom(0), span: c.span}
		ways := downWays(c.steps, c.span)
		checkKnownWays(t, "down a grid", a, ways, c.steps*impl.MaxRobots, cellsFrom(impl.MaxSide*c.steps))
		if used := impl.CellsUsed(ways); len(used) != impl.MaxRobots+impl.MaxSide*c.steps {
			t.Errorf("%d steps down a grid: CellsUsed is %v", c.steps, used)
		}
		if c.free*(c.span+1) == impl.MaxLayers {
			layers++
		}
	}
	if layers != 9 {
		t.Errorf("%d problems have MaxLayers layers", layers)
	}
}

// MaxRobots robots with the greatest span that the free cells allow, on paths chosen at random and on those of Cheapest.
func TestWaysAtTheLimits(t *testing.T) {
	s := numbers(111111)
	can, faults, cheap, spans, layers := 0, 0, 0, 0, 0
	for _, g := range limitGrids() {
		free := freeCellsOf(g)
		a := ask{g: g, span: min(impl.MaxSpan, impl.MaxLayers/len(free)-1)}
		for range 4 {
			a.starts = someOf(&s, free, impl.MaxRobots)
			ways := wander(&s, a)
			a.goals = someEnds(&s, a, ways)
			n := a.wayNet()
			if n.checkPaths(t, ways) {
				can++
			}
			for range 4 {
				if !n.checkPaths(t, spoiled(&s, ways, len(g.Cells))) {
					faults++
				}
			}
			if !n.checkUnits(t, spoiledFlow(&s, n, ways)) {
				faults++
			}
			if checkCheapPaths(t, a) {
				cheap++
			}
			if a.span == impl.MaxSpan {
				spans++
			}
			if len(free)*(a.span+1) == impl.MaxLayers {
				layers++
			}
		}
	}
	if can < 60 || faults < 200 || cheap < 60 || spans < 4 || layers < 30 {
		t.Errorf("only %d paths that robots can follow, %d faults, %d problems that Cheapest solves, %d with MaxSpan and %d with MaxLayers layers", can, faults, cheap, spans, layers)
	}
}

// spoilWays overwrites all paths of a result and the memory behind them and behind the result.
func spoilWays(ways []impl.Way) {
	for _, w := range ways {
		spoil(w.Cells)
	}
	ways = ways[:cap(ways)]
	for i := range ways {
		ways[i].Cells = []int{-7}
	}
}

// checkNewWays checks that the results for paths that robots can follow share no memory.
func checkNewWays(t *testing.T, n wayNet, ways []impl.Way) {
	t.Helper()
	want, flow := cloneWays(ways), append(make([]int, 0, 2000), n.plainFlow(ways)...)
	wantFlow := slices.Clone(flow)
	first, _ := n.waysOf(flow)
	second, _ := n.waysOf(flow)
	spoilWays(first)
	if !sameWays(second, want) || !slices.Equal(flow, wantFlow) {
		t.Errorf("WaysOf(%+v) of %v shares memory with an earlier result or an argument", n.ask, flow)
	}
	for i := range second {
		spoil(second[i].Cells)
		if !sameWays(second[i+1:], want[i+1:]) {
			t.Errorf("WaysOf(%+v) of %v has paths that share memory", n.ask, flow)
		}
	}
	if third, _ := n.waysOf(flow); !sameWays(third, want) {
		t.Errorf("WaysOf(%+v) of %v shares memory with an earlier result", n.ask, flow)
	}
	flows, _ := n.flowFor(ways)
	again, _ := n.flowFor(ways)
	spoil(flows)
	if !slices.Equal(again, wantFlow) || !sameWays(ways, want) {
		t.Errorf("FlowFor(%+v) of %v shares memory with an earlier result or an argument", n.ask, ways)
	}
}

// checkNewLists checks that the results for any paths share no memory.
func checkNewLists(t *testing.T, ways []impl.Way) {
	t.Helper()
	want := cloneWays(ways)
	for _, list := range []func([]impl.Way) []int{impl.EndsOf, impl.CellsUsed} {
		first, second := list(ways), list(ways)
		kept := slices.Clone(second)
		spoil(first)
		if !slices.Equal(second, kept) || !sameWays(ways, want) || !slices.Equal(list(ways), kept) {
			t.Errorf("a list %v of %v shares memory with an earlier result or an argument", kept, want)
		}
	}
}

func TestWaysAreNew(t *testing.T) {
	s := numbers(1112)
	for _, g := range wayGrids() {
		for _, a := range asksOn(&s, g, 0, 1, 5, 20) {
			ways := wander(&s, a)
			a.goals = someOf(&s, plainEndsOf(ways), s.below(len(ways)+1))
			checkNewWays(t, a.wayNet(), ways)
			checkNewLists(t, ways)
		}
	}
	for _, text := range []string{"", " ", ",", "3", "3 2 1", "3,2,1", "3 3, 2 2", ",5 4,,1"} {
		checkNewLists(t, pathsIn(t, text))
	}
}

// roomyWays has the same paths, each with memory behind it, and with paths in the memory behind them all.
func roomyWays(ways []impl.Way) []impl.Way {
	var roomy []impl.Way
	for _, w := range withRoomBehind(ways, 5, impl.Way{Cells: []int{99, 98}}) {
		roomy = append(roomy, impl.Way{Cells: withRoomBehind(w.Cells, 30, 99)[:len(w.Cells)]})
	}
	return roomy
}

// allOf has the paths with the memory behind them.
func allOf(ways []impl.Way) []impl.Way {
	var all []impl.Way
	for _, w := range ways {
		all = append(all, impl.Way{Cells: w.Cells[:cap(w.Cells)]})
	}
	return all
}

// checkWaysKept checks that the functions leave the lists, the paths, and the memory behind them as they are.
func checkWaysKept(t *testing.T, a ask, ways []impl.Way, flow []int) {
	t.Helper()
	starts, goals, units := withRoomBehind(a.starts, 30, 99), withRoomBehind(a.goals, 30, 99), withRoomBehind(flow, 50, 99)
	keptStarts, keptGoals, keptUnits := slices.Clone(starts), slices.Clone(goals), slices.Clone(units)
	paths := roomyWays(ways)
	kept := cloneWays(allOf(paths))
	b := ask{a.g, starts[:len(a.starts)], goals[:len(a.goals)], a.span}
	result, _ := b.waysOf(units[:len(flow)])
	spoilWays(result)
	list, _ := b.flowFor(paths[:len(ways)])
	spoil(list)
	impl.MovesOf(paths[:len(ways)])
	spoil(impl.EndsOf(paths[:len(ways)]))
	spoil(impl.CellsUsed(paths[:len(ways)]))
	if !slices.Equal(starts, keptStarts) || !slices.Equal(goals, keptGoals) || !slices.Equal(units, keptUnits) || b.g != a.g {
		t.Errorf("a list of %+v, the flow %v or the memory behind them changed", a, flow)
	}
	if !sameWays(allOf(paths), kept) {
		t.Errorf("the paths %v or the memory behind them changed", ways)
	}
}

func TestWaysKeepTheirArguments(t *testing.T) {
	s := numbers(11121)
	for _, g := range wayGrids() {
		for _, a := range asksOn(&s, g, 0, 1, 5, 20) {
			ways := wander(&s, a)
			a.goals = someEnds(&s, a, ways)
			n := a.wayNet()
			checkWaysKept(t, a, ways, n.plainFlow(ways))
			checkWaysKept(t, a, spoiled(&s, ways, len(g.Cells)), spoiledFlow(&s, n, ways))
			checkWaysKept(t, ask{g, a.goals, a.starts, a.span}, ways, n.plainFlow(ways))
			checkWaysKept(t, a.at(impl.MaxSpan+1), ways, n.plainFlow(ways))
		}
	}
	for _, g := range append(invalidGrids(), fullOf('.'), fullOf('#')) {
		checkWaysKept(t, ask{g, []int{3, 0}, []int{3, 0}, 1}, pathsIn(t, "3 2 1,, 0 9 -4, 5"), []int{3, 1, 2})
	}
}

// Paths of an argument may share memory: here they are parts of one line, or the same path twice.
func TestWaysThatShareMemory(t *testing.T) {
	line := []int{0, 1, 2, 3, 4, 5}
	ways := []impl.Way{{Cells: line[0:4]}, {Cells: line[1:5]}, {Cells: line[2:6]}}
	n := ask{gridWith("......"), []int{0, 1, 2}, []int{4, 5}, 3}.wayNet()
	if !n.checkPaths(t, ways) {
		t.Errorf("robots cannot follow %v", ways)
	}
	checkNewWays(t, n, ways)
	checkNewLists(t, ways)
	twice := []impl.Way{ways[1], ways[1], ways[1]}
	if n.checkPaths(t, twice) {
		t.Errorf("robots can follow %v", twice)
	}
	checkNewLists(t, twice)
	if moves, ends, cells := impl.MovesOf(twice), impl.EndsOf(twice), impl.CellsUsed(twice); moves != 9 || !slices.Equal(ends, []int{4}) || !slices.Equal(cells, []int{1, 2, 3, 4}) {
		t.Errorf("%v has %d moves, the ends %v and the cells %v", twice, moves, ends, cells)
	}
	if !slices.Equal(line, []int{0, 1, 2, 3, 4, 5}) {
		t.Errorf("the line became %v", line)
	}
}
