package tests

import (
	"fmt"
	"math"
	"slices"
	"strings"
	"testing"

	"loop.example/g00961/impl"
)

// ask is a problem: the arguments that the functions of chapter 10 share.
type ask struct {
	g      impl.Grid
	starts []int
	goals  []int
	span   int
}

func (a ask) ok() bool { return impl.AskOk(a.g, a.starts, a.goals, a.span) }

func (a ask) net(strict bool) (impl.Net, bool) {
	return impl.TimeNet(a.g, a.starts, a.goals, a.span, strict)
}

func (a ask) can() bool { return impl.CanAt(a.g, a.starts, a.goals, a.span) }

// at is the same problem with another span.
func (a ask) at(span int) ask { return ask{a.g, a.starts, a.goals, span} }

// plainStands reports whether cells has free cells of a valid grid, each one greater than the one before it.
func plainStands(g impl.Grid, cells []int) bool {
	last := -1
	for _, c := range cells {
		if c <= last || c >= len(g.Cells) || g.Cells[c] == '#' {
			return false
		}
		last = c
	}
	return true
}

// plainOk reads the conditions of the chapter one by one, for a problem on a valid grid.
func (a ask) plainOk() bool {
	if len(a.starts) == 0 || len(a.starts) > 10 || !plainStands(a.g, a.starts) {
		return false
	}
	if len(a.goals) > len(a.starts) || !plainStands(a.g, a.goals) {
		return false
	}
	if a.span < 0 || a.span > 20 {
		return false
	}
	layers := 0
	for range a.span + 1 {
		layers += len(freeCellsOf(a.g))
	}
	return layers <= 240
}

// timeNode names a node by what it stands for. The nodes of a cell have only its first cell.
type timeNode struct {
	name string
	t    int
	a, b int
}

// plainPairs are the pairs of adjacent free cells, by their smaller cell and then by their greater one.
func plainPairs(g impl.Grid) [][2]int {
	var pairs [][2]int
	for a := range len(g.Cells) {
		for b := a + 1; b < len(g.Cells); b++ {
			if slices.Contains(plainAround(g, a), b) {
				pairs = append(pairs, [2]int{a, b})
			}
		}
	}
	return pairs
}

// plainNodes has the names of all nodes in the order of their numbers.
func (a ask) plainNodes(strict bool) []timeNode {
	nodes := []timeNode{{name: "source"}, {name: "sink"}, {name: "rest"}}
	for t := range a.span + 1 {
		for _, c := range freeCellsOf(a.g) {
			nodes = append(nodes, timeNode{"in", t, c, 0}, timeNode{"out", t, c, 0})
		}
	}
	if !strict {
		return nodes
	}
	for t := range a.span {
		for _, p := range plainPairs(a.g) {
			nodes = append(nodes, timeNode{"P", t, p[0], p[1]}, timeNode{"P+1", t, p[0], p[1]})
		}
	}
	return nodes
}

// plainNet has the arcs of the chapter between the names of their nodes, and replaces these by their places in plainNodes.
func (a ask) plainNet(strict bool) impl.Net {
	places := map[timeNode]int{}
	for place, node := range a.plainNodes(strict) {
		places[node] = place
	}
	n := impl.Net{Nodes: len(places)}
	join := func(from timeNode, to timeNode, room int, cost int) {
		n.Arcs = append(n.Arcs, impl.Arc{From: places[from], To: places[to], Room: room, Cost: cost})
	}
	for _, c := range a.starts {
		join(timeNode{name: "source"}, timeNode{"in", 0, c, 0}, 1, 0)
	}
	for t := 0; t <= a.span; t++ {
		for _, c := range freeCellsOf(a.g) {
			out := timeNode{"out", t, c, 0}
			join(timeNode{"in", t, c, 0}, out, 1, 0)
			if t < a.span {
				join(out, timeNode{"in", t + 1, c, 0}, 1, 0)
			}
			for _, d := range plainAround(a.g, c) {
				if t < a.span && !strict {
					join(out, timeNode{"in", t + 1, d, 0}, 1, 1)
				}
			}
		}
		for _, p := range plainPairs(a.g) {
			if t < a.span && strict {
				first, second := timeNode{"P", t, p[0], p[1]}, timeNode{"P+1", t, p[0], p[1]}
				join(timeNode{"out", t, p[0], 0}, first, 1, 0)
				join(timeNode{"out", t, p[1], 0}, first, 1, 0)
				join(first, second, 1, 1)
				join(second, timeNode{"in", t + 1, p[0], 0}, 1, 0)
				join(second, timeNode{"in", t + 1, p[1], 0}, 1, 0)
			}
		}
	}
	for _, c := range freeCellsOf(a.g) {
		end := "rest"
		if slices.Contains(a.goals, c) {
			end = "sink"
		}
		join(timeNode{"out", a.span, c, 0}, timeNode{name: end}, 1, 0)
	}
	join(timeNode{name: "rest"}, timeNode{name: "sink"}, len(a.starts)-len(a.goals), 0)
	return n
}

func sameNet(n impl.Net, m impl.Net) bool { return n.Nodes == m.Nodes && slices.Equal(n.Arcs, m.Arcs) }

// checkNet compares a network, and says where it differs first.
func checkNet(t *testing.T, a ask, strict bool, want impl.Net) {
	t.Helper()
	n, ok := a.net(strict)
	if !ok || n.Nodes != want.Nodes || len(n.Arcs) != len(want.Arcs) {
		t.Fatalf("TimeNet(%+v) with strict %v is %v, with %d nodes and %d arcs, want %d and %d", a, strict, ok, n.Nodes, len(n.Arcs), want.Nodes, len(want.Arcs))
	}
	for i := range n.Arcs {
		if n.Arcs[i] != want.Arcs[i] {
			t.Fatalf("TimeNet(%+v) with strict %v has the arc %d %+v, want %+v", a, strict, i, n.Arcs[i], want.Arcs[i])
		}
	}
}

// checkInNodes checks that an arc leads from each in node of the network to the next node, and that no other numbers are in nodes.
func checkInNodes(t *testing.T, a ask, n impl.Net) {
	t.Helper()
	free := freeCellsOf(a.g)
	for time := range a.span + 1 {
		for k, c := range free {
			in := impl.InNode(a.g, c, time)
			if in != 3+2*(time*len(free)+k) || !slices.Contains(n.Arcs, impl.Arc{From: in, To: in + 1, Room: 1}) {
				t.Errorf("InNode(%+v, %d, %d) = %d, which is no in node of %+v", a.g, c, time, in, a)
			}
		}
	}
	for i, c := range a.starts {
		if n.Arcs[i] != (impl.Arc{To: impl.InNode(a.g, c, 0), Room: 1}) {
			t.Errorf("the start %d of %+v has the arc %+v", i, a, n.Arcs[i])
		}
	}
}

// checkTimeNets checks both networks of a valid problem.
func checkTimeNets(t *testing.T, a ask) {
	t.Helper()
	if !a.ok() {
		t.Fatalf("AskOk(%+v) is false", a)
	}
	for _, strict := range []bool{false, true} {
		checkNet(t, a, strict, a.plainNet(strict))
		n, _ := a.net(strict)
		nodes := 3 + 2*len(freeCellsOf(a.g))*(a.span+1)
		if strict {
			nodes += 2 * impl.PairsOf(a.g) * a.span
		}
		if !impl.NetOk(n) || n.Nodes != nodes {
			t.Errorf("TimeNet(%+v) with strict %v has %d nodes, want %d, and NetOk is %v", a, strict, n.Nodes, nodes, impl.NetOk(n))
		}
		checkInNodes(t, a, n)
	}
}

// checkNoAsk checks what the functions return for a problem that is not valid.
func checkNoAsk(t *testing.T, name string, a ask) {
	t.Helper()
	if a.ok() {
		t.Errorf("%s: AskOk(%+v) is true", name, a)
	}
	for _, strict := range []bool{false, true} {
		if n, ok := a.net(strict); ok || n.Nodes != 0 || len(n.Arcs) != 0 {
			t.Errorf("%s: TimeNet(%+v) with strict %v = %+v and %v", name, a, strict, n, ok)
		}
	}
	if a.can() {
		t.Errorf("%s: CanAt(%+v) is true", name, a)
	}
}

// arcsIn reads arcs as "4>11$" from node 4 to node 11, with Room 1, and Cost 1 only if there is a "$". Another Room follows at the end, as in "2>1*0".
func arcsIn(t *testing.T, text string) []impl.Arc {
	t.Helper()
	var arcs []impl.Arc
	for _, field := range strings.Fields(text) {
		a := impl.Arc{Room: 1, Cost: strings.Count(field, "$")}
		field = strings.TrimSuffix(field, "$")
		var err error
		if strings.Contains(field, "*") {
			_, err = fmt.Sscanf(field, "%d>%d*%d", &a.From, &a.To, &a.Room)
		} else {
			_, err = fmt.Sscanf(field, "%d>%d", &a.From, &a.To)
		}
		if err != nil {
			t.Fatalf("%q: %v", field, err)
		}
		arcs = append(arcs, a)
	}
	return arcs
}

func TestTimeLimits(t *testing.T) {
	if impl.MaxLayers != 240 || impl.MaxRobots != 10 || impl.MaxSpan != 20 {
		t.Errorf("the limits are %d, %d and %d", impl.MaxLayers, impl.MaxRobots, impl.MaxSpan)
	}
}

// The example of the chapter, with all nodes and arcs.
func TestTimeExample(t *testing.T) {
	a := ask{gridWith(".."), []int{0}, []int{1}, 1}
	if !a.ok() {
		t.Fatal("AskOk of the example is false")
	}
	for i, want := range []int{3, 5, 7, 9} {
		if got := impl.InNode(a.g, i%2, i/2); got != want {
			t.Errorf("InNode(example, %d, %d) = %d, want %d", i%2, i/2, got, want)
		}
	}
	checkNet(t, a, false, impl.Net{Nodes: 11, Arcs: []impl.Arc{
		{From: 0, To: 3, Room: 1, Cost: 0},
		{From: 3, To: 4, Room: 1, Cost: 0}, {From: 4, To: 7, Room: 1, Cost: 0}, {From: 4, To: 9, Room: 1, Cost: 1},
		{From: 5, To: 6, Room: 1, Cost: 0}, {From: 6, To: 9, Room: 1, Cost: 0}, {From: 6, To: 7, Room: 1, Cost: 1},
		{From: 7, To: 8, Room: 1, Cost: 0}, {From: 9, To: 10, Room: 1, Cost: 0},
		{From: 8, To: 2, Room: 1, Cost: 0}, {From: 10, To: 1, Room: 1, Cost: 0},
		{From: 2, To: 1, Room: 0, Cost: 0},
	}})
	checkNet(t, a, true, impl.Net{Nodes: 13, Arcs: []impl.Arc{
		{From: 0, To: 3, Room: 1, Cost: 0},
		{From: 3, To: 4, Room: 1, Cost: 0}, {From: 4, To: 7, Room: 1, Cost: 0},
		{From: 5, To: 6, Room: 1, Cost: 0}, {From: 6, To: 9, Room: 1, Cost: 0},
		{From: 4, To: 11, Room: 1, Cost: 0}, {From: 6, To: 11, Room: 1, Cost: 0}, {From: 11, To: 12, Room: 1, Cost: 1},
		{From: 12, To: 7, Room: 1, Cost: 0}, {From: 12, To: 9, Room: 1, Cost: 0},
		{From: 7, To: 8, Room: 1, Cost: 0}, {From: 9, To: 10, Room: 1, Cost: 0},
		{From: 8, To: 2, Room: 1, Cost: 0}, {From: 10, To: 1, Room: 1, Cost: 0},
		{From: 2, To: 1, Room: 0, Cost: 0},
	}})
	if a.at(0).can() || !a.can() {
		t.Error("CanAt of the example")
	}
}

// Whole networks, written out by hand.
func TestTimeNetTables(t *testing.T) {
	cross := gridWith("#.#", "...", "#.#")
	cases := []struct {
		name   string
		a      ask
		strict bool
		nodes  int
		arcs   string
	}{
		{"one cell, span 0, no goals", ask{gridWith("."), []int{0}, nil, 0}, false, 5, "0>3 3>4 4>2 2>1"},
		{"one cell, span 0, no goals", ask{gridWith("."), []int{0}, nil, 0}, true, 5, "0>3 3>4 4>2 2>1"},
		{"one cell, span 0, a goal", ask{gridWith("F"), []int{0}, []int{0}, 0}, false, 5, "0>3 3>4 4>1 2>1*0"},
		{"one cell, span 0, a goal", ask{gridWith("F"), []int{0}, []int{0}, 0}, true, 5, "0>3 3>4 4>1 2>1*0"},
		{"one free cell, span 2", ask{gridWith("##", "#a"), []int{3}, []int{3}, 2}, false, 9, "0>3 3>4 4>5 5>6 6>7 7>8 8>1 2>1*0"},
		{"one free cell, span 2", ask{gridWith("##", "#a"), []int{3}, []int{3}, 2}, true, 9, "0>3 3>4 4>5 5>6 6>7 7>8 8>1 2>1*0"},
		{"no free neighbors", ask{gridWith("A#B"), []int{0, 2}, []int{2}, 1}, false, 11,
			"0>3 0>5  3>4 4>7  5>6 6>9  7>8 9>10  8>2 10>1 2>1"},
		{"no free neighbors", ask{gridWith("A#B"), []int{0, 2}, []int{2}, 1}, true, 11,
			"0>3 0>5  3>4 4>7  5>6 6>9  7>8 9>10  8>2 10>1 2>1"},
		{"span 0", ask{gridWith("..#."), []int{0, 3}, []int{0, 1}, 0}, false, 9, "0>3 0>7  3>4 5>6 7>8  4>1 6>1 8>2 2>1*0"},
		{"span 0", ask{gridWith("..#."), []int{0, 3}, []int{0, 1}, 0}, true, 9, "0>3 0>7  3>4 5>6 7>8  4>1 6>1 8>2 2>1*0"},
		{"a blocked cell", ask{gridWith("#.", ".."), []int{1, 2}, []int{3}, 1}, false, 15,
			"0>3 0>5  3>4 4>9 4>13$  5>6 6>11 6>13$  7>8 8>13 8>9$ 8>11$  9>10 11>12 13>14  10>2 12>2 14>1 2>1"},
		{"a blocked cell", ask{gridWith("#.", ".."), []int{1, 2}, []int{3}, 1}, true, 19,
			"0>3 0>5  3>4 4>9  5>6 6>11  7>8 8>13  4>15 8>15 15>16$ 16>9 16>13  6>17 8>17 17>18$ 18>11 18>13 " +
				"9>10 11>12 13>14  10>2 12>2 14>1 2>1"},
		{"a column", ask{gridWith(".", "."), []int{1}, nil, 1}, false, 11,
			"0>5  3>4 4>7 4>9$  5>6 6>9 6>7$  7>8 9>10  8>2 10>2 2>1"},
		{"a column", ask{gridWith(".", "."), []int{1}, nil, 1}, true, 13,
			"0>5  3>4 4>7  5>6 6>9  4>11 6>11 11>12$ 12>7 12>9  7>8 9>10  8>2 10>2 2>1"},
		{"four cells", ask{gridWith("ab", "CD"), []int{0, 1, 3}, []int{1, 2}, 1}, false, 19,
			"0>3 0>5 0>9  3>4 4>11 4>13$ 4>15$  5>6 6>13 6>11$ 6>17$  7>8 8>15 8>11$ 8>17$  9>10 10>17 10>13$ 10>15$ " +
				"11>12 13>14 15>16 17>18  12>2 14>1 16>1 18>2 2>1"},
		{"four cells", ask{gridWith("ab", "CD"), []int{0, 1, 3}, []int{1, 2}, 1}, true, 27,
			"0>3 0>5 0>9  3>4 4>11  5>6 6>13  7>8 8>15  9>10 10>17 " +
				"4>19 6>19 19>20$ 20>11 20>13  4>21 8>21 21>22$ 22>11 22>15  6>23 10>23 23>24$ 24>13 24>17  8>25 10>25 25>26$ 26>15 26>17 " +
				"11>12 13>14 15>16 17>18  12>2 14>1 16>1 18>2 2>1"},
		{"span 2", ask{gridWith("..."), []int{0, 1}, []int{2}, 2}, false, 21,
			"0>3 0>5  3>4 4>9 4>11$  5>6 6>11 6>9$ 6>13$  7>8 8>13 8>11$  9>10 10>15 10>17$  11>12 12>17 12>15$ 12>19$ " +
				"13>14 14>19 14>17$  15>16 17>18 19>20  16>2 18>2 20>1 2>1"},
		{"span 2", ask{gridWith("..."), []int{0, 1}, []int{2}, 2}, true, 29,
			"0>3 0>5  3>4 4>9  5>6 6>11  7>8 8>13  4>21 6>21 21>22$ 22>9 22>11  6>23 8>23 23>24$ 24>11 24>13 " +
				"9>10 10>15  11>12 12>17  13>14 14>19  10>25 12>25 25>26$ 26>15 26>17  12>27 14>27 27>28$ 28>17 28>19 " +
				"15>16 17>18 19>20  16>2 18>2 20>1 2>1"},
		{"adjacent on all sides", ask{cross, []int{4}, nil, 1}, false, 23,
			"0>7  3>4 4>13 4>17$  5>6 6>15 6>17$  7>8 8>17 8>13$ 8>15$ 8>19$ 8>21$  9>10 10>19 10>17$  11>12 12>21 12>17$ " +
				"13>14 15>16 17>18 19>20 21>22  14>2 16>2 18>2 20>2 22>2 2>1"},
		{"adjacent on all sides", ask{cross, []int{4}, nil, 1}, true, 31,
			"0>7  3>4 4>13  5>6 6>15  7>8 8>17  9>10 10>19  11>12 12>21 " +
				"4>23 8>23 23>24$ 24>13 24>17  6>25 8>25 25>26$ 26>15 26>17  8>27 10>27 27>28$ 28>17 28>19  8>29 12>29 29>30$ 30>17 30>21 " +
				"13>14 15>16 17>18 19>20 21>22  14>2 16>2 18>2 20>2 22>2 2>1"},
		{"all starts are goals", ask{gridWith(".#", ".#"), []int{0, 2}, []int{0, 2}, 1}, false, 11,
			"0>3 0>5  3>4 4>7 4>9$  5>6 6>9 6>7$  7>8 9>10  8>1 10>1 2>1*0"},
		{"no goals", ask{gridWith(".#", ".#"), []int{0, 2}, nil, 1}, false, 11,
			"0>3 0>5  3>4 4>7 4>9$  5>6 6>9 6>7$  7>8 9>10  8>2 10>2 2>1*2"},
	}
	for _, c := range cases {
		t.Run(c.name, func(t *testing.T) { checkNet(t, c.a, c.strict, impl.Net{Nodes: c.nodes, Arcs: arcsIn(t, c.arcs)}) })
	}
}

// someOf has the given number of the cells, chosen at random, in ascending order.
func someOf(s *numbers, cells []int, count int) []int {
	left := slices.Clone(cells)
	for len(left) > count {
		place := s.below(len(left))
		left = slices.Delete(left, place, place+1)
	}
	return left
}

// asksOn has valid problems on a grid: each span of the given ones, with some starts, and without goals, with some and with as many as starts.
func asksOn(s *numbers, g impl.Grid, spans ...int) []ask {
	free := freeCellsOf(g)
	if len(free) == 0 {
		return nil
	}
	var asks []ask
	for _, span := range spans {
		if len(free)*(span+1) > 240 {
			continue
		}
		starts := someOf(s, free, 1+s.below(min(10, len(free))))
		for _, goals := range []int{0, s.below(len(starts) + 1), len(starts)} {
			asks = append(asks, ask{g, starts, someOf(s, free, goals), span})
		}
	}
	return asks
}

// Promise 10, on all small grids and on larger ones.
func TestTimeNetsOfAllGrids(t *testing.T) {
	s := numbers(10)
	grids := slices.DeleteFunc(smallGrids(), func(g impl.Grid) bool { return len(g.Cells) > 6 })
	grids = append(append(grids, validGrids()...), mixedGrids()...)
	grids = append(grids, rowOfFive(), longestGrid(), turningGrid(), checkerGrid(8, 8, 0), checkerGrid(7, 7, 1), checkerGrid(1, 8, 0))
	asks := 0
	for _, g := range grids {
		for _, a := range asksOn(&s, g, 0, 1, 2, 4, 9, 20) {
			checkTimeNets(t, a)
			asks++
		}
	}
	if asks < 3000 {
		t.Errorf("only %d problems", asks)
	}
}

// countArcs counts the arcs with the given Room and Cost.
func countArcs(arcs []impl.Arc, room int, cost int) int {
	count := 0
	for _, a := range arcs {
		if a.Room == room && a.Cost == cost {
			count++
		}
	}
	return count
}

// Each kind of arc is as frequent as the cells, the pairs and the times tell; only moves have a cost.
func TestTimeNetRoomsAndCosts(t *testing.T) {
	s := numbers(100)
	for _, g := range append(mixedGrids(), gridWith("."), gridWith("....", "....", "...."), longestGrid()) {
		cells, pairs := len(freeCellsOf(g)), len(plainPairs(g))
		for _, a := range asksOn(&s, g, 0, 1, 3, 7, 20) {
			robots, rest := len(a.starts), len(a.starts)-len(a.goals)
			still := robots + cells*(a.span+1) + cells*a.span + cells
			for strict, wants := range map[bool][2]int{false: {still, 2 * pairs * a.span}, true: {still + 4*pairs*a.span, pairs * a.span}} {
				n, _ := a.net(strict)
				last := len(n.Arcs) - 1
				if n.Arcs[last] != (impl.Arc{From: 2, To: 1, Room: rest, Cost: 0}) {
					t.Errorf("TimeNet(%+v) with strict %v ends with %+v, want Room %d", a, strict, n.Arcs[last], rest)
				}
				arcs := n.Arcs[:last]
				if len(arcs) != wants[0]+wants[1] || countArcs(arcs, 1, 0) != wants[0] || countArcs(arcs, 1, 1) != wants[1] {
					t.Errorf("TimeNet(%+v) with strict %v has %d arcs, %d with Cost 0 and %d with Cost 1, want %v", a, strict, len(arcs), countArcs(arcs, 1, 0), countArcs(arcs, 1, 1), wants)
				}
			}
		}
	}
}

// The last arc takes exactly the robots for which there is no goal.
func TestTimeNetLastArc(t *testing.T) {
	g := gridWith("....", "....", "....")
	free := freeCellsOf(g)
	for robots := 1; robots <= impl.MaxRobots; robots++ {
		for goals := 0; goals <= robots; goals++ {
			for _, strict := range []bool{false, true} {
				a := ask{g, free[:robots], free[12-goals:], 1}
				n, ok := a.net(strict)
				if last := n.Arcs[len(n.Arcs)-1]; !ok || last != (impl.Arc{From: 2, To: 1, Room: robots - goals}) {
					t.Errorf("%d starts and %d goals: the last arc is %+v", robots, goals, last)
				}
			}
		}
	}
}

// squareOfFour is a grid with more free cells than there can be robots.
func squareOfFour() impl.Grid { return gridWith("....", "....", "....", "....") }

// badAsk is a problem that is not valid, for one reason.
type badAsk struct {
	name string
	a    ask
}

// Each fault alone, on a grid in which the same problem without it is valid.
func askFaults() []badAsk {
	g, big, more := gridWith("..#", "..."), squareOfFour(), impl.MaxRobots+1
	free := freeCellsOf(big)
	return []badAsk{
		{"invalid byte in the grid", ask{gridWith("..x", "..."), []int{0, 1}, []int{4}, 2}},
		{"grid with a cell too few", ask{impl.Grid{Wide: 3, High: 2, Cells: "..#.."}, []int{0, 1}, []int{4}, 2}},
		{"no starts", ask{g, nil, nil, 2}},
		{"no starts, an empty list", ask{g, []int{}, []int{}, 2}},
		{"no starts, one goal", ask{g, nil, []int{4}, 2}},
		{"MaxRobots+1 starts", ask{big, free[:more], nil, 2}},
		{"MaxRobots+1 starts, as many goals", ask{big, free[:more], free[:more], 2}},
		{"all cells as starts", ask{big, free, free[:2], 2}},
		{"only start blocked", ask{g, []int{2}, nil, 2}},
		{"last start blocked", ask{g, []int{0, 2}, []int{4}, 2}},
		{"middle start blocked", ask{g, []int{1, 2, 3}, []int{4}, 2}},
		{"first start blocked", ask{g, []int{2, 3}, []int{4}, 2}},
		{"start negative", ask{g, []int{-1, 1}, []int{4}, 2}},
		{"only start negative", ask{g, []int{-1}, nil, 2}},
		{"start far below 0", ask{g, []int{math.MinInt, 1}, []int{4}, 2}},
		{"start past the grid", ask{g, []int{1, 6}, []int{4}, 2}},
		{"only start past the grid", ask{g, []int{6}, nil, 2}},
		{"start far past the grid", ask{g, []int{1, math.MaxInt}, []int{4}, 2}},
		{"starts descend", ask{g, []int{1, 0}, []int{4}, 2}},
		{"last two starts descend", ask{g, []int{0, 3, 1}, []int{4}, 2}},
		{"first two starts descend", ask{g, []int{1, 0, 3}, []int{4}, 2}},
		{"start twice", ask{g, []int{1, 1}, []int{4}, 2}},
		{"last start twice", ask{g, []int{0, 1, 1}, []int{4}, 2}},
		{"start twice, not in succession", ask{g, []int{0, 1, 0}, []int{4}, 2}},
		{"only goal blocked", ask{g, []int{0, 1}, []int{2}, 2}},
		{"first goal blocked", ask{g, []int{0, 1}, []int{2, 3}, 2}},
		{"last goal blocked", ask{g, []int{0, 1}, []int{1, 2}, 2}},
		{"goal negative", ask{g, []int{0, 1}, []int{-1}, 2}},
		{"first goal negative", ask{g, []int{0, 1}, []int{-1, 4}, 2}},
		{"goal far below 0", ask{g, []int{0, 1}, []int{math.MinInt}, 2}},
		{"goal past the grid", ask{g, []int{0, 1}, []int{6}, 2}},
		{"last goal past the grid", ask{g, []int{0, 1}, []int{4, 6}, 2}},
		{"goal far past the grid", ask{g, []int{0, 1}, []int{math.MaxInt}, 2}},
		{"goals descend", ask{g, []int{0, 1}, []int{4, 3}, 2}},
		{"last two goals descend", ask{g, []int{0, 1, 3}, []int{1, 4, 3}, 2}},
		{"first two goals descend", ask{g, []int{0, 1, 3}, []int{3, 1, 4}, 2}},
		{"goal twice", ask{g, []int{0, 1}, []int{4, 4}, 2}},
		{"last goal twice", ask{g, []int{0, 1, 3}, []int{3, 4, 4}, 2}},
		{"goal twice, not in succession", ask{g, []int{0, 1, 3}, []int{3, 4, 3}, 2}},
		{"two goals, one start", ask{g, []int{0}, []int{1, 4}, 2}},
		{"three goals, two starts", ask{g, []int{0, 1}, []int{1, 3, 4}, 2}},
		{"MaxRobots+1 goals, MaxRobots starts", ask{big, free[:more-1], free[:more], 2}},
		{"span -1", ask{g, []int{0, 1}, []int{4}, -1}},
		{"span MaxSpan+1", ask{g, []int{0, 1}, []int{4}, impl.MaxSpan + 1}},
		{"least span", ask{g, []int{0, 1}, []int{4}, math.MinInt}},
		{"greatest span", ask{g, []int{0, 1}, []int{4}, math.MaxInt}},
		{"span for which the product is 0 without its upper bits", ask{gridWith("...."), []int{0}, nil, 1<<62 - 1}},
		{"too many layers", ask{big, free[:2], []int{4}, 15}},
	}
}

func TestAskOkFaults(t *testing.T) {
	checkTimeNets(t, ask{gridWith("..#", "..."), []int{0, 1}, []int{4}, 2})
	for _, c := range askFaults() {
		checkNoAsk(t, c.name, c.a)
	}
}

func TestTimeOfInvalidGrids(t *testing.T) {
	for _, g := range invalidGrids() {
		for _, span := range []int{0, 1} {
			checkNoAsk(t, "invalid grid", ask{g, []int{0}, nil, span})
			checkNoAsk(t, "invalid grid", ask{g, []int{0}, []int{0}, span})
		}
	}
}

func TestAskOkAllowed(t *testing.T) {
	g, big := gridWith("..#", "..."), squareOfFour()
	free := freeCellsOf(big)
	ten := free[:impl.MaxRobots]
	cases := []struct {
		name string
		a    ask
	}{
		{"one start, no goals", ask{g, []int{0}, nil, 2}},
		{"the last cell as start", ask{g, []int{5}, []int{0}, 2}},
		{"no goals, an empty list", ask{g, []int{0}, []int{}, 2}},
		{"MaxRobots starts, no goals", ask{big, ten, nil, 2}},
		{"MaxRobots starts, one goal", ask{big, ten, free[15:], 2}},
		{"MaxRobots starts, as many goals", ask{big, ten, free[16-impl.MaxRobots:], 2}},
		{"MaxRobots starts that are the goals", ask{big, ten, ten, 2}},
		{"as many goals as starts", ask{g, []int{0, 1}, []int{4, 5}, 2}},
		{"a start that is the goal", ask{g, []int{0, 1}, []int{1}, 2}},
		{"all cells are starts and goals", ask{g, []int{0, 1, 3, 4, 5}, []int{0, 1, 3, 4, 5}, 2}},
		{"the first and the last cell", ask{g, []int{0, 5}, []int{0, 5}, 2}},
		{"cells of zones and parking cells", ask{gridWith("aAf", "F#."), []int{0, 1, 2, 3}, []int{0, 1, 2, 3}, 2}},
		{"a goal that cannot be reached", ask{gridWith(".#."), []int{0}, []int{2}, 2}},
		{"span 0", ask{g, []int{0, 1}, []int{4}, 0}},
		{"span MaxSpan", ask{g, []int{0, 1}, []int{4}, impl.MaxSpan}},
		{"MaxLayers layers", ask{big, ten, []int{4}, 14}},
	}
	for _, c := range cases {
		t.Run(c.name, func(t *testing.T) { checkTimeNets(t, c.a) })
	}
}

// All lists of cells of small grids, with cells outside of them, as starts and as goals.
func TestAskOkOfAllLists(t *testing.T) {
	for _, g := range []impl.Grid{gridWith(".."), gridWith("#."), gridWith(".", "#", "."), gridWith("##")} {
		var cells []int
		for c := -1; c <= len(g.Cells); c++ {
			cells = append(cells, c)
		}
		lists, valid := listsOf(cells, 3), 0
		for _, starts := range lists {
			for _, goals := range lists {
				a := ask{g, starts, goals, 1}
				if a.ok() != a.plainOk() {
					t.Errorf("AskOk(%+v) is %v", a, a.ok())
				}
				if a.plainOk() {
					valid++
				}
			}
		}
		// Of one free cell, there are 0 or 1 goals for one start; of two, 0 or 1 for each of the two starts, and 0, 1 or 2 for both.
		if want := []int{0, 2, 2*3 + 4}[len(freeCellsOf(g))]; valid != want {
			t.Errorf("%d valid problems on %+v, want %d", valid, g, want)
		}
	}
}

// gridOf has the given number of free cells, in rows of MaxSide; the last row is filled up with blocked cells.
func gridOf(free int) impl.Grid {
	high := max(1, (free+impl.MaxSide-1)/impl.MaxSide)
	cells := strings.Repeat(".", free) + strings.Repeat("#", impl.MaxSide*high-free)
	return impl.Grid{Wide: impl.MaxSide, High: high, Cells: cells}
}

// The number of free cells times span+1, on both sides of MaxLayers. It is never one more than that, which is a prime number.
func TestAskOkLayers(t *testing.T) {
	equal, above := 0, math.MaxInt
	for free := 1; free <= impl.MaxSide*impl.MaxSide; free++ {
		for span := range impl.MaxSpan + 1 {
			a := ask{gridOf(free), []int{0}, nil, span}
			layers := free * (span + 1)
			if a.ok() != (layers <= impl.MaxLayers) || a.ok() != a.plainOk() {
				t.Errorf("AskOk with %d free cells and span %d is %v", free, span, a.ok())
			}
			if layers == impl.MaxLayers {
				equal++
				checkTimeNets(t, a)
			}
			if layers > impl.MaxLayers {
				above = min(above, layers)
				checkNoAsk(t, "too many layers", a)
			}
		}
	}
	if equal != 9 || above != impl.MaxLayers+2 {
		t.Errorf("%d problems have MaxLayers layers, and the least number above is %d", equal, above)
	}
}

func TestInNodeTables(t *testing.T) {
	g, n := exampleGrid(), impl.MaxSpan
	cases := []struct {
		name    string
		g       impl.Grid
		c, time int
		want    int
	}{
		{"the first cell at time 0", g, 0, 0, 3},
		{"the second free cell at time 0", g, 2, 0, 5},
		{"the third free cell at time 0", g, 3, 0, 7},
		{"the fourth free cell at time 0", g, 4, 0, 9},
		{"the last free cell at time 0", g, 5, 0, 11},
		{"the first cell at time 1", g, 0, 1, 13},
		{"the last cell at time 1", g, 5, 1, 21},
		{"the third free cell at time 7", g, 3, 7, 77},
		{"the first cell at time MaxSpan", g, 0, n, 203},
		{"the last cell at time MaxSpan", g, 5, n, 211},
		{"a blocked cell", g, 1, 0, -1},
		{"a blocked cell at time MaxSpan", g, 1, n, -1},
		{"before the first cell", g, -1, 0, -1},
		{"past the last cell", g, 6, 0, -1},
		{"far before the first cell", g, math.MinInt, 0, -1},
		{"far past the last cell", g, math.MaxInt, 0, -1},
		{"before time 0", g, 0, -1, -1},
		{"past MaxSpan", g, 0, n + 1, -1},
		{"long before time 0", g, 0, math.MinInt, -1},
		{"long past MaxSpan", g, 0, math.MaxInt, -1},
		{"one cell", gridWith("."), 0, 0, 3},
		{"one cell at time MaxSpan", gridWith("."), 0, n, 43},
		{"no free cells", gridWith("#"), 0, 0, -1},
		{"a single free cell among blocked ones", gridWith("###", "#f#"), 4, 2, 7},
		{"more layers than MaxLayers", fullOf('.'), 63, n, 2689},
		{"a grid that is not valid", gridWith("..x"), 0, 0, -1},
	}
	for _, c := range cases {
		if got := impl.InNode(c.g, c.c, c.time); got != c.want {
			t.Errorf("%s: InNode(%+v, %d, %d) = %d, want %d", c.name, c.g, c.c, c.time, got, c.want)
		}
	}
}

func fullOf(kind byte) impl.Grid {
	n := impl.MaxSide
	return impl.Grid{Wide: n, High: n, Cells: strings.Repeat(string(kind), n*n)}
}

// The in nodes are all odd numbers from 3 on, in the order of the times and of the cells, on grids of any size.
func TestInNodeOfAllGrids(t *testing.T) {
	for _, g := range homesGrids() {
		next := 3
		for time := -2; time <= impl.MaxSpan+2; time++ {
			for c := -2; c <= len(g.Cells)+1; c++ {
				want := -1
				if time >= 0 && time <= impl.MaxSpan && slices.Contains(freeCellsOf(g), c) {
					want, next = next, next+2
				}
				if got := impl.InNode(g, c, time); got != want {
					t.Fatalf("InNode(%+v, %d, %d) = %d, want %d", g, c, time, got, want)
				}
			}
		}
	}
	for _, g := range invalidGrids() {
		for _, c := range []int{-1, 0, 1, len(g.Cells) - 1, len(g.Cells)} {
			for _, time := range []int{-1, 0, 1, impl.MaxSpan, impl.MaxSpan + 1} {
				if got := impl.InNode(g, c, time); got != -1 {
					t.Errorf("InNode(%+v, %d, %d) = %d, want -1", g, c, time, got)
				}
			}
		}
	}
}

// spoilArcs overwrites the arcs of a network and the memory behind them.
func spoilArcs(n impl.Net) {
	arcs := n.Arcs[:cap(n.Arcs)]
	for i := range arcs {
		arcs[i] = impl.Arc{From: -7, To: -7, Room: -7, Cost: -7}
	}
}

func TestTimeNetsAreNew(t *testing.T) {
	s := numbers(1010)
	for _, g := range append(mixedGrids(), gridWith("."), gridWith("...", ".#.", "...")) {
		for _, a := range asksOn(&s, g, 0, 1, 5, 20) {
			b := ask{a.g, append(make([]int, 0, 1000), a.starts...), append(make([]int, 0, 1000), a.goals...), a.span}
			for _, strict := range []bool{false, true} {
				want := a.plainNet(strict)
				first, _ := b.net(strict)
				second, _ := b.net(strict)
				spoilArcs(first)
				if !sameNet(second, want) || !slices.Equal(a.starts, b.starts) || !slices.Equal(a.goals, b.goals) {
					t.Errorf("TimeNet(%+v) with strict %v shares memory with an earlier result or its arguments", a, strict)
				}
				spoilArcs(second)
				if third, _ := b.net(strict); !sameNet(third, want) {
					t.Errorf("TimeNet(%+v) with strict %v shares memory with an earlier result", a, strict)
				}
			}
		}
	}
}

// checkAskKept checks that the functions leave the lists, the memory behind them, and the grid as they are.
func checkAskKept(t *testing.T, a ask) {
	t.Helper()
	before := impl.Grid{Wide: a.g.Wide, High: a.g.High, Cells: strings.Clone(a.g.Cells)}
	starts, goals := withRoomBehind(a.starts, 30, 99), withRoomBehind(a.goals, 30, 99)
	keptStarts, keptGoals := slices.Clone(starts), slices.Clone(goals)
	b := ask{a.g, starts[:len(a.starts)], goals[:len(a.goals)], a.span}
	b.ok()
	b.can()
	for _, strict := range []bool{false, true} {
		n, _ := b.net(strict)
		spoilArcs(n)
	}
	for c := -1; c <= min(len(a.g.Cells), 70); c++ {
		impl.InNode(b.g, c, a.span)
	}
	if !slices.Equal(starts, keptStarts) || !slices.Equal(goals, keptGoals) {
		t.Errorf("a list of %+v or the memory behind it changed", a)
	}
	if a.g != before || b.g != before {
		t.Errorf("the grid %+v became %+v", before, a.g)
	}
}

func TestTimeKeepsItsArguments(t *testing.T) {
	s := numbers(101010)
	for _, g := range append(mixedGrids(), gridWith("."), gridWith("...", ".#.", "...")) {
		for _, a := range asksOn(&s, g, 0, 1, 5, 20) {
			checkAskKept(t, a)
			checkAskKept(t, ask{g, a.goals, a.starts, a.span})
			descending := slices.Clone(a.starts)
			slices.Reverse(descending)
			checkAskKept(t, ask{g, descending, a.goals, a.span})
			checkAskKept(t, ask{g, a.starts, descending, a.span})
			checkAskKept(t, ask{g, a.starts, a.goals, impl.MaxSpan + 1})
		}
	}
	for _, g := range append(invalidGrids(), fullOf('.'), fullOf('#')) {
		checkAskKept(t, ask{g, []int{0, 3}, []int{3, 0}, 1})
	}
}
