package tests

import (
	"slices"
	"testing"

	"loop.example/g00961/impl"
)

// checkUncrossedPlan checks that robots can follow the changed paths to the same ends, and tells how many moves less they have.
func (a ask) checkUncrossedPlan(t *testing.T, ways []impl.Way) int {
	t.Helper()
	crossings := checkUncrossed(t, ways)
	changed, ok := impl.Uncrossed(ways)
	if !ok {
		t.Errorf("the paths %v are not regular", ways)
		return 0
	}
	a.goals = plainEndsOf(ways)
	if got := a.fault(impl.Plan{Span: a.span, Moves: plainMovesOf(ways) - crossings, Ways: changed}); got != 0 {
		t.Errorf("PlanFault of %v, which %v became, is %d", changed, ways, got)
	}
	return crossings
}

// All paths of robots that never meet on small grids.
func TestUncrossedPlansOfAllPaths(t *testing.T) {
	with, without := 0, 0
	for _, c := range []struct {
		g            impl.Grid
		robots, span int
	}{
		{gridWith("."), 1, 4}, {gridWith(".."), 2, 5}, {gridWith("..."), 3, 4}, {gridWith("..."), 2, 4}, {gridWith("..", "#."), 3, 4}, {gridWith("..", ".."), 4, 3}, {gridWith("..", ".."), 3, 3},
		{gridWith("....."), 5, 2}, {gridWith("...", "..."), 6, 1}, {gridWith("..", "..", ".."), 3, 2}, {gridWith("#.#", "...", "#.#"), 4, 2}, {gridWith("...", "..."), 4, 0},
	} {
		for _, starts := range partsOf(freeCellsOf(c.g), c.robots) {
			if len(starts) != c.robots {
				continue
			}
			a := ask{c.g, starts, nil, c.span}
			eachWays(a, func(ways []impl.Way) {
				if a.checkUncrossedPlan(t, ways) > 0 {
					with++
				} else {
					without++
				}
			})
		}
	}
	if with < 5000 || without < 5000 {
		t.Errorf("only %d lists of paths with crossings, and %d without", with, without)
	}
}

// Paths chosen at random on grids of all sizes, also with one change.
func TestUncrossedPlansOfSomePaths(t *testing.T) {
	s := numbers(131313)
	plans, less, changes := 0, 0, 0
	for _, g := range append(wayGrids(), limitGrids()...) {
		for _, a := range asksOn(&s, g, 0, 1, 2, 5, 11, 20) {
			ways := wander(&s, a)
			less += a.checkUncrossedPlan(t, ways)
			plans++
			for range 3 {
				if checkUncrossed(t, spoiled(&s, ways, len(g.Cells))) < 0 {
					changes++
				}
			}
		}
	}
	if plans < 500 || less < 1000 || changes < 500 {
		t.Errorf("only %d plans with %d crossings, and %d irregular changes", plans, less, changes)
	}
}

// The paths of a flow of Cheapest, and those of a flow with crossings, which the same robots can follow with fewer moves.
func TestUncrossedFlows(t *testing.T) {
	s := numbers(13131)
	flows, less := 0, 0
	for _, g := range wayGrids() {
		for _, a := range asksOn(&s, g, 0, 1, 2, 5, 11, 20) {
			ways := wander(&s, a)
			a.goals = plainEndsOf(ways)
			flow, ok := a.flowFor(ways)
			given, _ := a.waysOf(flow)
			changed, same := impl.Uncrossed(given)
			after, can := a.flowFor(changed)
			if !ok || !same || !can {
				t.Errorf("%v of %+v became %v, which are no paths of a flow", ways, a, changed)
				continue
			}
			net, _ := a.net(false)
			before := impl.FlowCost(net, flow)
			if got := impl.FlowCost(net, after); got != before-impl.Crossings(given) {
				t.Errorf("%v of %+v became %v: the cost was %d and is %d", ways, a, changed, before, got)
			}
			flows, less = flows+1, less+before-impl.FlowCost(net, after)
			if best, _, ok := impl.Cheapest(net, len(a.starts)); ok {
				given, _ := a.waysOf(best)
				if changed, ok := impl.Uncrossed(given); !ok || !sameWays(changed, given) || impl.Crossings(given) != 0 {
					t.Errorf("the paths %v of a flow of Cheapest became %v and %v", given, changed, ok)
				}
			}
		}
	}
	if flows < 100 || less < 300 {
		t.Errorf("only %d flows with %d crossings", flows, less)
	}
}

// linesOf has MaxRobots paths, whose cells a function tells.
func linesOf(length int, cell func(robot int, time int) int) []impl.Way {
	ways := make([]impl.Way, impl.MaxRobots)
	for i := range ways {
		for time := range length {
			ways[i].Cells = append(ways[i].Cells, cell(i, time))
		}
	}
	return ways
}

// limitCase has MaxRobots paths, what becomes of them, and the number of crossings in each step.
type limitCase struct {
	name    string
	ways    []impl.Way
	changed []impl.Way
	even    int
	odd     int
}

func limitCases(length int) []limitCase {
	stays := linesOf(length, func(robot int, time int) int { return robot })
	// Within its first three, its next three, and its last two pairs of places.
	turned := func(robot int, steps int) int {
		if robot < 6 {
			return robot/3*3 + (robot+steps)%3
		}
		return robot ^ steps&1
	}
	// The robot that would pass all others, there and back, takes each of them one place back.
	passing := func(robot int, time int) int {
		place := 9 - max(time%18-9, 9-time%18)
		switch {
		case robot == 0:
			return place
		case robot <= place:
			return robot - 1
		}
		return robot
	}
	row := linesOf(length, func(robot int, time int) int { return robot + time })
	loose := linesOf(length, func(robot int, time int) int { return (robot + time) % 12 })
	stairs := linesOf(length, func(robot int, time int) int { return robot + 100*(time/2) })
	return []limitCase{
		{"robots that stay", stays, stays, 0, 0},
		{"a row", row, row, 0, 0},
		{"a ring", linesOf(length, func(robot int, time int) int { return (robot + time) % 10 }), stays, 10, 10},
		{"a ring that skips two", linesOf(length, func(robot int, time int) int { return (robot + 3*time) % 10 }), stays, 10, 10},
		{"two rings of five", linesOf(length, func(robot int, time int) int { return (robot + 2*time) % 10 }), stays, 10, 10},
		{"five swaps", linesOf(length, func(robot int, time int) int { return (robot + 5*time) % 10 }), stays, 10, 10},
		{"swaps of neighbours", linesOf(length, func(robot int, time int) int { return robot ^ time&1 }), stays, 10, 10},
		{"rings and swaps", linesOf(length, turned), stays, 10, 10},
		{"a ring with two empty cells", loose, loose, 0, 0},
		{"a robot that passes the others", linesOf(length, passing), stays, 2, 2},
		{"rings and swaps, and a row at every other time", linesOf(length, func(robot int, time int) int { return turned(robot, (time+1)/2) + 100*(time/2) }), stairs, 10, 0},
	}
}

// MaxRobots paths of MaxSpan+1 cells, and of more: these functions have no limit for the number of cells.
func TestUncrossAtTheLimits(t *testing.T) {
	for _, length := range []int{impl.MaxSpan, impl.MaxSpan + 1, impl.MaxSpan + 2, 200} {
		for _, c := range limitCases(length) {
			want := length/2*c.even + (length-1)/2*c.odd
			if got := checkUncrossed(t, c.ways); got != want || impl.Crossings(c.ways) != want {
				t.Errorf("%s: %d crossings in %d cells, want %d", c.name, got, length, want)
			}
			if got, ok := impl.Uncrossed(c.ways); !ok || !sameWays(got, c.changed) {
				t.Errorf("%s: Uncrossed of %v = %v and %v", c.name, c.ways, got, ok)
			}
			if !checkSame(t, c.ways, c.changed) || !impl.SameStands(c.ways, c.changed) {
				t.Errorf("%s: %v and %v do not occupy the same cells", c.name, c.ways, c.changed)
			}
			other := cloneWays(c.changed)
			other[9].Cells[length-1] = -1
			if checkSame(t, c.ways, other) || impl.SameStands(c.ways, other) {
				t.Errorf("%s: SameStands is true with a difference at the last time", c.name)
			}
			more := append(cloneWays(c.ways), impl.Way{Cells: slices.Repeat([]int{-1}, length)})
			if checkUncrossed(t, more) != -1 || checkSame(t, more, more) || checkSame(t, more, c.ways) {
				t.Errorf("%s: MaxRobots+1 paths are regular", c.name)
			}
			meets := cloneWays(c.ways)
			meets[9].Cells[length-1] = meets[0].Cells[length-1]
			if checkUncrossed(t, meets) != -1 {
				t.Errorf("%s: paths that meet at the last time are regular", c.name)
			}
		}
	}
}

// Paths at the limits on a grid, with known plans.
func TestUncrossedPlansAtTheLimits(t *testing.T) {
	ring := []int{0, 1, 2, 3, 4, 9, 8, 7, 6, 5}
	closed := ask{gridWith(".....", "....."), cellsFrom(0), nil, impl.MaxSpan}
	twelve := []int{0, 1, 2, 3, 4, 5, 11, 10, 9, 8, 7, 6}
	open := ask{gridWith("......", "......"), cellsFrom(0), nil, 19}
	down := ask{gridOf(64), cellsFrom(0), nil, 2}
	for _, c := range []struct {
		name string
		a    ask
		ways []impl.Way
		want int
	}{
		{"a ring of 10 cells", closed, ringWays(ring, closed.starts, impl.MaxSpan), 10 * impl.MaxSpan},
		{"robots that stay", closed, closed.waits(), 0},
		{"a ring of 12 cells, in which two are empty", open, ringWays(twelve, open.starts, 19), 0},
		{"down a grid", down, downWays(2, 2), 0},
	} {
		if got := c.a.checkUncrossedPlan(t, c.ways); got != c.want {
			t.Errorf("%s: %d crossings, want %d", c.name, got, c.want)
		}
		if changed, _ := impl.Uncrossed(c.ways); c.want > 0 && !sameWays(changed, c.a.waits()) {
			t.Errorf("%s: the paths became %v", c.name, changed)
		}
	}
}

// checkUncrossedNew checks that the results for regular ways share no memory with each other, with the ways, and among themselves.
func checkUncrossedNew(t *testing.T, ways []impl.Way) {
	t.Helper()
	kept := cloneWays(ways)
	want := plainUncrossed(ways)
	first, _ := impl.Uncrossed(ways)
	second, _ := impl.Uncrossed(ways)
	spoilWays(first)
	if !sameWays(second, want) || !sameWays(ways, kept) {
		t.Errorf("Uncrossed(%v) shares memory with an earlier result or its argument", kept)
	}
	for i := range second {
		spoil(second[i].Cells)
		if !sameWays(second[i+1:], want[i+1:]) {
			t.Errorf("Uncrossed(%v) has paths that share memory", kept)
		}
	}
	if third, _ := impl.Uncrossed(ways); !sameWays(third, want) {
		t.Errorf("Uncrossed(%v) shares memory with an earlier result", kept)
	}
	// What becomes of the ways makes no difference to the result.
	own := cloneWays(ways)
	result, _ := impl.Uncrossed(own)
	spoilWays(own)
	if !sameWays(result, want) {
		t.Errorf("a change of %v changes the result of Uncrossed", kept)
	}
}

// checkUncrossKept checks that the functions leave their arguments and the memory behind them as they are.
func checkUncrossKept(t *testing.T, a []impl.Way, b []impl.Way) {
	t.Helper()
	first, second := roomyWays(a), roomyWays(b)
	keptFirst, keptSecond := cloneWays(allOf(first)), cloneWays(allOf(second))
	for _, ways := range [][]impl.Way{first[:len(a)], second[:len(b)]} {
		result, _ := impl.Uncrossed(ways)
		spoilWays(result)
		impl.Crossings(ways)
		impl.SameStands(ways, ways)
	}
	impl.SameStands(first[:len(a)], second[:len(b)])
	impl.SameStands(second[:len(b)], first[:len(a)])
	if !sameWays(allOf(first), keptFirst) || !sameWays(allOf(second), keptSecond) {
		t.Errorf("the paths %v, %v or the memory behind them changed", a, b)
	}
}

func TestUncrossedIsNew(t *testing.T) {
	s := numbers(1331)
	for _, c := range slices.Concat(swapRests(), ringRests(), uncrossedAlready()) {
		ways := pathsIn(t, c.ways)
		checkUncrossedNew(t, ways)
		checkUncrossKept(t, ways, pathsIn(t, c.changed))
	}
	for _, c := range append(unevenWays(), meetingWays()...) {
		checkUncrossKept(t, pathsIn(t, c.ways), pathsIn(t, c.good))
	}
	for _, length := range []int{1, 2, 3, 8, impl.MaxSpan + 1} {
		for count := 1; count <= impl.MaxRobots; count++ {
			for _, more := range []int{0, 1, 3} {
				ways := turning(&s, count, count+more, length)
				checkUncrossedNew(t, ways)
				checkUncrossKept(t, ways, mixedAt(&s, ways))
				checkUncrossKept(t, spoiled(&s, ways, 30), ways)
			}
		}
	}
}

// Paths of an argument may share memory: here they are parts of one line, or the same path twice.
func TestUncrossedThatShareMemory(t *testing.T) {
	line := []int{0, 1, 2, 0, 1, 2, 0, 1, 2, 3}
	ring := []impl.Way{{Cells: line[0:6]}, {Cells: line[1:7]}, {Cells: line[2:8]}}
	if got := checkUncrossed(t, ring); got != 15 {
		t.Errorf("a ring in one line has %d crossings", got)
	}
	checkUncrossedNew(t, ring)
	first := []impl.Way{{Cells: line[5:8]}, {Cells: line[6:9]}, {Cells: line[7:10]}}
	if got := checkUncrossed(t, first); got != 3 {
		t.Errorf("a ring at the first of two times has %d crossings", got)
	}
	checkUncrossedNew(t, first)
	if got := checkUncrossed(t, []impl.Way{ring[0], ring[1], ring[0]}); got != -1 {
		t.Errorf("the same path twice has %d crossings", got)
	}
	if !checkSame(t, ring, ring[:3]) || checkSame(t, ring, ring[:2]) || checkSame(t, ring, []impl.Way{ring[2], ring[1], ring[1]}) {
		t.Error("SameStands of a list and a part of it is wrong")
	}
	if !slices.Equal(line, []int{0, 1, 2, 0, 1, 2, 0, 1, 2, 3}) {
		t.Errorf("the line became %v", line)
	}
}
