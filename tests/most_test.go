package tests

import (
	"math"
	"slices"
	"testing"

	"loop.example/g00961/impl"
)

// sideOf reads one digit for each node.
func sideOf(digits string) []bool {
	side := make([]bool, len(digits))
	for i := range side {
		side[i] = digits[i] == '1'
	}
	return side
}

// listsOfFlags has all lists of the given length.
func listsOfFlags(length int) [][]bool {
	lists := [][]bool{nil}
	for range length {
		var longer [][]bool
		for _, list := range lists {
			longer = append(longer, append(slices.Clone(list), false), append(slices.Clone(list), true))
		}
		lists = longer
	}
	return lists
}

// cutsOf has all cuts of a network with the given nodes.
func cutsOf(nodes int) [][]bool {
	var cuts [][]bool
	for _, rest := range listsOfFlags(nodes - 2) {
		cuts = append(cuts, append([]bool{true, false}, rest...))
	}
	return cuts
}

func plainCutRoom(n impl.Net, side []bool) int {
	room := 0
	for _, a := range n.Arcs {
		if side[a.From] && !side[a.To] {
			room += a.Room
		}
	}
	return room
}

// trailStep is how a node is reached: along an arc, forward or backward.
type trailStep struct {
	arc     int
	forward bool
}

// plainTrail visits all arcs, without a search, until node 1 or no further node is reached, and tells whether it is node 1.
func plainTrail(n impl.Net, flow []int) ([]trailStep, bool) {
	steps, reached := make([]trailStep, n.Nodes), make([]bool, n.Nodes)
	reached[0] = true
	for changed := true; changed && !reached[1]; {
		changed = false
		for i, a := range n.Arcs {
			if reached[a.From] && !reached[a.To] && flow[i] < a.Room {
				steps[a.To], reached[a.To], changed = trailStep{i, true}, true, true
			}
			if reached[a.To] && !reached[a.From] && flow[i] > 0 {
				steps[a.From], reached[a.From], changed = trailStep{i, false}, true, true
			}
		}
	}
	return steps, reached[1]
}

// plainMost is a flow that grows by one unit after the other until node 1 is not reached.
func plainMost(n impl.Net) []int {
	flow := sameFlow(n, 0)
	steps, reached := plainTrail(n, flow)
	for reached {
		for open := true; open; {
			for node := 1; node != 0; {
				if s := steps[node]; s.forward {
					flow[s.arc]++
					node = n.Arcs[s.arc].From
				} else {
					flow[s.arc]--
					node = n.Arcs[s.arc].To
				}
			}
			open = stillOpen(n, flow, steps)
		}
		steps, reached = plainTrail(n, flow)
	}
	return flow
}

// stillOpen tells whether the same steps to node 1 can be taken once more.
func stillOpen(n impl.Net, flow []int, steps []trailStep) bool {
	for node := 1; node != 0; {
		s := steps[node]
		a := n.Arcs[s.arc]
		if s.forward && flow[s.arc] == a.Room || !s.forward && flow[s.arc] == 0 {
			return false
		}
		node = a.From
		if !s.forward {
			node = a.To
		}
	}
	return true
}

// checkMost checks promise 7 for a valid network with a flow and a cut, each of which shows that the other one is best, and returns MostFlow.
func checkMost(t *testing.T, n impl.Net) (int, []bool) {
	t.Helper()
	size, cut := impl.MostFlow(n)
	if len(cut) != n.Nodes || !cut[0] || cut[1] || !impl.CutOk(n, cut) {
		t.Fatalf("MostFlow(%+v) has the cut %v, which is none", n, cut)
	}
	if room := impl.CutRoom(n, cut); room != size || plainCutRoom(n, cut) != size {
		t.Errorf("MostFlow(%+v) = %d with a cut of capacity %d, which is %d", n, size, room, plainCutRoom(n, cut))
	}
	flow := plainMost(n)
	if !plainFlowOk(n, flow) || plainSize(n, flow) != size || !impl.FlowOk(n, flow) || impl.FlowSize(n, flow) != size {
		t.Errorf("MostFlow(%+v) = %d, want %d, the size of %v", n, size, plainSize(n, flow), flow)
	}
	if want := plainReached(n, flow); !slices.Equal(cut, want) || !slices.Equal(cut, impl.ReachedBy(n, flow)) {
		t.Errorf("MostFlow(%+v) has the cut %v, want %v", n, cut, want)
	}
	if !impl.Stopped(n, flow, cut) {
		t.Errorf("Stopped(%+v, %v, %v) is false", n, flow, cut)
	}
	return size, cut
}

// flowsOf has all flows of a small network.
func flowsOf(n impl.Net) [][]int {
	var flows [][]int
	list := sameFlow(n, 0)
	for {
		if impl.FlowOk(n, list) {
			flows = append(flows, slices.Clone(list))
		}
		i := 0
		for i < len(list) && list[i] == n.Arcs[i].Room {
			list[i] = 0
			i++
		}
		if i == len(list) {
			return flows
		}
		list[i]++
	}
}

// checkLeastCut checks that no cut of a small network has less capacity than the greatest flow, and returns MostFlow.
func checkLeastCut(t *testing.T, n impl.Net) (int, []bool) {
	t.Helper()
	size, cut := checkMost(t, n)
	least := math.MaxInt
	for _, side := range cutsOf(n.Nodes) {
		if got, want := impl.CutRoom(n, side), plainCutRoom(n, side); !impl.CutOk(n, side) || got != want {
			t.Errorf("CutOk and CutRoom(%+v, %v) = %v and %d, want %d", n, side, impl.CutOk(n, side), got, want)
		}
		least = min(least, impl.CutRoom(n, side))
	}
	if size != least {
		t.Errorf("MostFlow(%+v) = %d, but the least cut has %d", n, size, least)
	}
	return size, cut
}

// checkAllCuts checks promise 7 with all flows and all cuts of a small network.
func checkAllCuts(t *testing.T, n impl.Net) {
	t.Helper()
	size, cut := checkLeastCut(t, n)
	most := math.MinInt
	for _, flow := range flowsOf(n) {
		got := impl.FlowSize(n, flow)
		most = max(most, got)
		if got == size && !slices.Equal(impl.ReachedBy(n, flow), cut) {
			t.Errorf("MostFlow(%+v) has the cut %v, but %v reaches %v", n, cut, flow, impl.ReachedBy(n, flow))
		}
		for _, side := range cutsOf(n.Nodes) {
			if room := impl.CutRoom(n, side); got > room || impl.Stopped(n, flow, side) != (got == room) {
				t.Errorf("Stopped(%+v, %v, %v) is %v, with the size %d and the capacity %d", n, flow, side, impl.Stopped(n, flow, side), got, room)
			}
		}
	}
	if size != most {
		t.Errorf("MostFlow(%+v) = %d, but the greatest flow has %d", n, size, most)
	}
}

// checkNoCut checks what the chapter states for a network that is not valid or a list that is not a cut.
func checkNoCut(t *testing.T, n impl.Net, side []bool) {
	t.Helper()
	if impl.CutOk(n, side) {
		t.Errorf("CutOk of %d nodes and %v is true", n.Nodes, side)
	}
	if got := impl.CutRoom(n, side); got != -1 {
		t.Errorf("CutRoom of %d nodes and %v is %d", n.Nodes, side, got)
	}
	for _, flow := range [][]int{nil, {0}, sameFlow(n, 0), sameFlow(n, 1), sameFlow(n, -1), fullFlow(n)} {
		if impl.Stopped(n, flow, side) {
			t.Errorf("Stopped(%+v, %v, %v) is true", n, flow, side)
		}
	}
}

func TestMostExample(t *testing.T) {
	n := exampleNet()
	size, cut := impl.MostFlow(n)
	if size != 3 || !slices.Equal(cut, sideOf("1000")) {
		t.Errorf("MostFlow of the example = %d and %v", size, cut)
	}
	for _, c := range []struct {
		side string
		room int
	}{{"1000", 3}, {"1010", 3}, {"1001", 4}, {"1011", 3}} {
		if got := impl.CutRoom(n, sideOf(c.side)); got != c.room {
			t.Errorf("CutRoom of %s in the example = %d, want %d", c.side, got, c.room)
		}
		if got := impl.Stopped(n, []int{2, 1, 1, 1, 2}, sideOf(c.side)); got != (c.room == 3) {
			t.Errorf("Stopped with %s in the example is %v", c.side, got)
		}
		if impl.Stopped(n, []int{2, 0, 1, 1, 1}, sideOf(c.side)) {
			t.Errorf("Stopped of a flow of size 2 with %s in the example is true", c.side)
		}
	}
	checkAllCuts(t, n)
	checkAllCuts(t, turned(n))
}

// mostCase is a network with its MostFlow; cut has one digit for each node.
type mostCase struct {
	name string
	n    impl.Net
	size int
	cut  string
}

func checkMostCases(t *testing.T, cases []mostCase) {
	t.Helper()
	for _, c := range cases {
		size, cut := checkLeastCut(t, c.n)
		if size != c.size || !slices.Equal(cut, sideOf(c.cut)) {
			t.Errorf("%s: MostFlow(%+v) = %d and %v, want %d and %s", c.name, c.n, size, cut, c.size, c.cut)
		}
	}
}

func TestMostWithoutFlow(t *testing.T) {
	checkMostCases(t, []mostCase{
		{"no arcs, two nodes", netWith(2), 0, "10"},
		{"no arcs, an empty list", impl.Net{Nodes: 2, Arcs: []impl.Arc{}}, 0, "10"},
		{"no arcs, five nodes", netWith(5), 0, "10000"},
		{"no arc out of node 0", netWith(4, [4]int{2, 3, 5, 1}, [4]int{3, 1, 5, 1}), 0, "1000"},
		{"no arc into node 1", netWith(4, [4]int{0, 2, 5, 1}, [4]int{2, 3, 5, 1}), 0, "1011"},
		{"a gap before node 1", netWith(4, [4]int{0, 2, 5, 1}, [4]int{3, 1, 5, 1}), 0, "1010"},
		{"an arc in the wrong direction", netWith(4, [4]int{0, 2, 5, 1}, [4]int{3, 2, 5, 1}, [4]int{3, 1, 5, 1}), 0, "1010"},
		{"from node 1 to node 0", netWith(2, [4]int{1, 0, 5, 1}), 0, "10"},
		{"a row from node 1 to node 0", turned(rowNet(5, 20, 1)), 0, "10000"},
		{"a circulation at node 0 and one at node 1", netWith(4, [4]int{0, 2, 5, 1}, [4]int{2, 0, 5, 1}, [4]int{1, 3, 5, 1}, [4]int{3, 1, 5, 1}), 0, "1010"},
		{"a row of Room 0", rowNet(5, 0, 1), 0, "10000"},
		{"from 0 to 1 with Room 0", netWith(2, [4]int{0, 1, 0, 1}, [4]int{0, 1, 0, 1}, [4]int{1, 0, 0, 1}), 0, "10"},
		{"Room 0 at node 0", netWith(4, [4]int{0, 2, 0, 1}, [4]int{2, 3, 5, 1}, [4]int{3, 1, 5, 1}), 0, "1000"},
		{"Room 0 in the middle", netWith(4, [4]int{0, 2, 5, 1}, [4]int{2, 3, 0, 1}, [4]int{3, 1, 5, 1}), 0, "1010"},
		{"Room 0 at node 1", netWith(4, [4]int{0, 2, 5, 1}, [4]int{2, 3, 5, 1}, [4]int{3, 1, 0, 1}), 0, "1011"},
	})
}

func TestMostWithFlow(t *testing.T) {
	checkMostCases(t, []mostCase{
		{"one arc", netWith(2, [4]int{0, 1, 1, 1}), 1, "10"},
		{"one arc of MaxRoom", netWith(2, [4]int{0, 1, 20, 100}), 20, "10"},
		{"parallel arcs from 0 to 1", netWith(2, [4]int{0, 1, 5, 1}, [4]int{0, 1, 0, 1}, [4]int{0, 1, 2, 1}), 7, "10"},
		{"equal parallel arcs", netWith(2, [4]int{0, 1, 5, 1}, [4]int{0, 1, 5, 1}, [4]int{0, 1, 5, 1}), 15, "10"},
		{"parallel arcs at node 0", netWith(3, [4]int{0, 2, 2, 1}, [4]int{0, 2, 3, 1}, [4]int{2, 1, 9, 1}), 5, "100"},
		{"parallel arcs at node 1", netWith(3, [4]int{0, 2, 9, 1}, [4]int{2, 1, 2, 1}, [4]int{2, 1, 3, 1}), 5, "101"},
		{"parallel arcs at both", netWith(3, [4]int{0, 2, 2, 1}, [4]int{0, 2, 5, 1}, [4]int{2, 1, 4, 1}, [4]int{2, 1, 4, 1}), 7, "100"},
		{"both directions between 0 and 1", netWith(2, [4]int{0, 1, 5, 1}, [4]int{1, 0, 7, 1}), 5, "10"},
		{"both directions at node 0", netWith(3, [4]int{0, 2, 4, 1}, [4]int{2, 0, 7, 1}, [4]int{2, 1, 3, 1}), 3, "101"},
		{"both directions at node 1", netWith(3, [4]int{0, 2, 4, 1}, [4]int{2, 1, 9, 1}, [4]int{1, 2, 7, 1}), 4, "100"},
		{"both directions in the middle", netWith(4, [4]int{0, 2, 3, 1}, [4]int{2, 3, 2, 1}, [4]int{3, 2, 5, 1}, [4]int{3, 1, 4, 1}), 2, "1010"},
		{"into node 0 only from behind", netWith(4, [4]int{0, 2, 4, 1}, [4]int{2, 1, 6, 1}, [4]int{3, 0, 9, 1}, [4]int{1, 3, 9, 1}), 4, "1000"},
		{"into node 0 along the row", netWith(4, [4]int{0, 2, 4, 1}, [4]int{2, 3, 3, 1}, [4]int{3, 0, 9, 1}, [4]int{3, 1, 2, 1}), 2, "1011"},
		{"out of node 1 to a node before it", netWith(4, [4]int{0, 2, 4, 1}, [4]int{2, 3, 3, 1}, [4]int{3, 1, 5, 1}, [4]int{1, 2, 9, 1}), 3, "1010"},
		{"out of node 1 to a node of its own", netWith(4, [4]int{0, 2, 4, 1}, [4]int{2, 1, 3, 1}, [4]int{1, 3, 9, 1}), 3, "1010"},
		{"through node 1 and back into it", netWith(4, [4]int{0, 1, 2, 1}, [4]int{1, 3, 9, 1}, [4]int{3, 2, 9, 1}, [4]int{2, 1, 9, 1}), 2, "1000"},
		{"a bottleneck at node 0", netWith(4, [4]int{0, 2, 1, 1}, [4]int{2, 3, 20, 1}, [4]int{3, 1, 20, 1}), 1, "1000"},
		{"a bottleneck at node 1", netWith(4, [4]int{0, 2, 20, 1}, [4]int{2, 3, 20, 1}, [4]int{3, 1, 1, 1}), 1, "1011"},
		{"a bottleneck in the middle", netWith(4, [4]int{0, 2, 20, 1}, [4]int{2, 3, 1, 1}, [4]int{3, 1, 20, 1}), 1, "1010"},
		{"the same bottleneck twice", netWith(5, [4]int{0, 2, 20, 1}, [4]int{2, 3, 4, 1}, [4]int{3, 4, 4, 1}, [4]int{4, 1, 20, 1}), 4, "10100"},
		{"three routes with bottlenecks apart", netWith(5, [4]int{0, 2, 1, 1}, [4]int{0, 3, 9, 1}, [4]int{0, 4, 5, 1}, [4]int{2, 1, 9, 1}, [4]int{3, 1, 2, 1}, [4]int{4, 1, 5, 1}), 8, "10010"},
		{"fork and join", netWith(6, [4]int{0, 2, 9, 1}, [4]int{2, 3, 4, 1}, [4]int{2, 4, 3, 1}, [4]int{3, 5, 9, 1}, [4]int{4, 5, 9, 1}, [4]int{5, 1, 9, 1}), 7, "101000"},
		{"a ring on the way", netWith(5, [4]int{0, 2, 5, 1}, [4]int{2, 3, 5, 1}, [4]int{3, 4, 5, 1}, [4]int{4, 2, 5, 1}, [4]int{3, 1, 4, 1}), 4, "10111"},
		{"a longer way beside a full one", netWith(4, [4]int{0, 1, 3, 1}, [4]int{0, 2, 2, 1}, [4]int{2, 3, 2, 1}, [4]int{3, 1, 2, 1}), 5, "1000"},
	})
}

// The bottlenecks of a row, at each of its places.
func TestMostOfRows(t *testing.T) {
	for nodes := 2; nodes <= 8; nodes++ {
		for _, room := range []int{0, 1, 7, impl.MaxRoom - 1} {
			for place := range nodes - 1 {
				n := rowNet(nodes, impl.MaxRoom, 1)
				n.Arcs[place].Room = room
				want := make([]bool, nodes)
				want[0] = true
				for node := 2; node < 2+place; node++ {
					want[node] = true
				}
				for _, m := range []impl.Net{n, inReverse(n)} {
					if size, cut := checkLeastCut(t, m); size != room || !slices.Equal(cut, want) {
						t.Errorf("MostFlow(%+v) = %d and %v, want %d and %v", m, size, cut, room, want)
					}
				}
			}
		}
	}
}

// inReverse has the same arcs in the reverse order.
func inReverse(n impl.Net) impl.Net {
	arcs := slices.Clone(n.Arcs)
	slices.Reverse(arcs)
	return impl.Net{Nodes: n.Nodes, Arcs: arcs}
}

// ordersOf has the network with its arcs in each order.
func ordersOf(n impl.Net) []impl.Net {
	if len(n.Arcs) == 0 {
		return []impl.Net{n}
	}
	var nets []impl.Net
	for i, a := range n.Arcs {
		rest := impl.Net{Nodes: n.Nodes, Arcs: slices.Delete(slices.Clone(n.Arcs), i, i+1)}
		for _, m := range ordersOf(rest) {
			nets = append(nets, impl.Net{Nodes: n.Nodes, Arcs: append(m.Arcs, a)})
		}
	}
	return nets
}

// With a route over the middle arc, the greatest flow of these networks is found only by taking it back, whichever arc comes first.
func TestMostOfDiamonds(t *testing.T) {
	one := netWith(4, [4]int{0, 2, 1, 1}, [4]int{0, 3, 1, 1}, [4]int{2, 3, 1, 1}, [4]int{2, 1, 1, 1}, [4]int{3, 1, 1, 1})
	both := netWith(4, [4]int{3, 2, 1, 1}, [4]int{0, 2, 1, 1}, [4]int{0, 3, 1, 1}, [4]int{2, 3, 1, 1}, [4]int{2, 1, 1, 1}, [4]int{3, 1, 1, 1})
	wide := netWith(4, [4]int{0, 2, 3, 1}, [4]int{0, 3, 3, 1}, [4]int{2, 3, 2, 1}, [4]int{2, 1, 3, 1}, [4]int{3, 1, 3, 1})
	for _, c := range []struct {
		n    impl.Net
		size int
	}{{one, 2}, {both, 2}, {wide, 6}} {
		for _, n := range ordersOf(c.n) {
			if size, cut := checkLeastCut(t, n); size != c.size || !slices.Equal(cut, sideOf("1000")) {
				t.Errorf("MostFlow(%+v) = %d and %v, want %d", n, size, cut, c.size)
			}
		}
	}
	checkAllCuts(t, one)
	checkAllCuts(t, both)
}

// Here the shortest path uses an arc that the greatest flow leaves empty.
func TestMostWithBackwardSteps(t *testing.T) {
	detour := netWith(8, [4]int{0, 2, 1, 1}, [4]int{2, 3, 1, 1}, [4]int{3, 1, 1, 1},
		[4]int{0, 4, 1, 1}, [4]int{4, 5, 1, 1}, [4]int{5, 3, 1, 1}, [4]int{2, 6, 1, 1}, [4]int{6, 7, 1, 1}, [4]int{7, 1, 1, 1})
	wide := netWith(8, [4]int{0, 2, 9, 1}, [4]int{2, 3, 7, 1}, [4]int{3, 1, 9, 1},
		[4]int{0, 4, 9, 1}, [4]int{4, 5, 8, 1}, [4]int{5, 3, 9, 1}, [4]int{2, 6, 9, 1}, [4]int{6, 7, 8, 1}, [4]int{7, 1, 9, 1})
	// From node 4 back to node 2, two arcs of the short way are taken back.
	twice := netWith(13, [4]int{0, 2, 1, 1}, [4]int{2, 3, 1, 1}, [4]int{3, 4, 1, 1}, [4]int{4, 1, 1, 1},
		[4]int{0, 5, 1, 1}, [4]int{5, 6, 1, 1}, [4]int{6, 7, 1, 1}, [4]int{7, 8, 1, 1}, [4]int{8, 4, 1, 1},
		[4]int{2, 9, 1, 1}, [4]int{9, 10, 1, 1}, [4]int{10, 11, 1, 1}, [4]int{11, 12, 1, 1}, [4]int{12, 1, 1, 1})
	// Node 2 is reached backward only: the arc into it is full.
	behind := netWith(6, [4]int{0, 2, 1, 1}, [4]int{2, 3, 1, 1}, [4]int{0, 4, 2, 1}, [4]int{4, 5, 2, 1}, [4]int{5, 3, 2, 1}, [4]int{3, 1, 2, 1})
	farBehind := netWith(8, [4]int{0, 2, 1, 1}, [4]int{2, 6, 1, 1}, [4]int{6, 3, 1, 1}, [4]int{2, 7, 1, 1},
		[4]int{0, 4, 2, 1}, [4]int{4, 5, 1, 1}, [4]int{4, 5, 1, 1}, [4]int{5, 3, 2, 1}, [4]int{3, 1, 1, 1})
	cases := []mostCase{
		{"a detour on both sides", detour, 2, "10000000"},
		{"a wide detour on both sides", wide, 17, "10001000"},
		{"a long way back", twice, 2, "1000000000000"},
		{"a node reached backward", behind, 2, "101111"},
		{"nodes reached backward, and forward from them", farBehind, 1, "10111111"},
	}
	checkMostCases(t, cases)
	for i := range cases {
		cases[i].n = inReverse(cases[i].n)
	}
	checkMostCases(t, cases)
	checkAllCuts(t, detour)
	checkAllCuts(t, twice)
	checkAllCuts(t, behind)
}

// netsOfFour has each network of 4 nodes with at most one arc of Room 1 from each node to each other one.
func netsOfFour() []impl.Net {
	nets := []impl.Net{netWith(4)}
	for from := range 4 {
		for to := range 4 {
			for _, n := range slices.Clone(nets) {
				if from != to {
					arc := impl.Arc{From: from, To: to, Room: 1, Cost: from}
					nets = append(nets, impl.Net{Nodes: 4, Arcs: append(slices.Clone(n.Arcs), arc)})
				}
			}
		}
	}
	return nets
}

// Promise 7, with all flows and all cuts of all small networks.
func TestMostOfSmallNets(t *testing.T) {
	for _, n := range slices.Concat(smallNets(0, 1, 2), netsOfFour()) {
		checkAllCuts(t, n)
	}
	for _, n := range netsOfFour() {
		checkLeastCut(t, inReverse(n))
	}
}

// wildNet has arcs between any nodes.
func wildNet(s *numbers, nodes int, arcs int, most int) impl.Net {
	n := impl.Net{Nodes: nodes}
	for range arcs {
		from := s.below(nodes)
		to := (from + 1 + s.below(nodes-1)) % nodes
		n.Arcs = append(n.Arcs, impl.Arc{From: from, To: to, Room: s.below(most + 1), Cost: s.below(impl.MaxCost + 1)})
	}
	return n
}

// Promise 7, with all cuts of networks that are too large for a list of all flows.
func TestMostOfMixedNets(t *testing.T) {
	sizes := map[int]bool{}
	for _, r := range mixedNets() {
		size, _ := checkLeastCut(t, r.net)
		sizes[size] = true
	}
	s := numbers(7)
	for count := range 400 {
		nodes := 3 + count%8
		n := wildNet(&s, nodes, nodes+s.below(4*nodes), 1+s.below(impl.MaxRoom))
		size, _ := checkLeastCut(t, n)
		sizes[size] = true
	}
	if len(sizes) < 50 {
		t.Errorf("only %d different sizes", len(sizes))
	}
}

func TestCutOkTables(t *testing.T) {
	n := exampleNet()
	for _, c := range []struct {
		name string
		side []bool
		want bool
	}{
		{"only node 0", sideOf("1000"), true},
		{"one more node", sideOf("1010"), true},
		{"all but node 1", sideOf("1011"), true},
		{"false for node 0", sideOf("0000"), false},
		{"false for node 0, others true", sideOf("0011"), false},
		{"true for node 1", sideOf("1100"), false},
		{"true for all nodes", sideOf("1111"), false},
		{"the nodes 0 and 1 exchanged", sideOf("0100"), false},
		{"one element too few", sideOf("100"), false},
		{"one element too many", sideOf("10000"), false},
		{"one element too many, which is true", sideOf("10001"), false},
		{"two elements", sideOf("10"), false},
		{"one element", sideOf("1"), false},
		{"no elements", []bool{}, false},
		{"nil", nil, false},
	} {
		if got := impl.CutOk(n, c.side); got != c.want {
			t.Errorf("%s: CutOk of the example and %v is %v", c.name, c.side, got)
		}
		if !c.want {
			checkNoCut(t, n, c.side)
		}
	}
}

// All lists of at most 7 elements, in networks with and without arcs.
func TestCutOkOfAllLists(t *testing.T) {
	for nodes := 2; nodes <= 6; nodes++ {
		for length := range 8 {
			for _, side := range listsOfFlags(length) {
				for _, n := range []impl.Net{netWith(nodes), rowNet(nodes, 3, 1)} {
					want := length == nodes && side[0] && !side[1]
					if got := impl.CutOk(n, side); got != want {
						t.Errorf("CutOk(%+v, %v) is %v", n, side, got)
					}
					if !want {
						checkNoCut(t, n, side)
					}
				}
			}
		}
	}
}

func TestCutRoomTables(t *testing.T) {
	row := netWith(5, [4]int{0, 2, 3, 1}, [4]int{2, 3, 5, 1}, [4]int{3, 4, 7, 1}, [4]int{4, 1, 11, 1})
	back := netWith(5, [4]int{0, 2, 3, 1}, [4]int{3, 2, 5, 1}, [4]int{1, 0, 9, 1}, [4]int{4, 0, 8, 1}, [4]int{2, 4, 6, 1})
	cases := []struct {
		name string
		n    impl.Net
		side string
		want int
	}{
		{"no arcs, two nodes", netWith(2), "10", 0},
		{"no arcs, five nodes", netWith(5), "10101", 0},
		{"one arc", netWith(2, [4]int{0, 1, 4, 9}), "10", 4},
		{"one arc from false to true", netWith(2, [4]int{1, 0, 4, 9}), "10", 0},
		{"parallel arcs", netWith(2, [4]int{0, 1, 4, 9}, [4]int{0, 1, 4, 9}, [4]int{0, 1, 20, 9}), "10", 28},
		{"both directions", netWith(2, [4]int{0, 1, 4, 9}, [4]int{1, 0, 5, 9}), "10", 4},
		{"arcs of Room 0", netWith(2, [4]int{0, 1, 0, 9}, [4]int{0, 1, 0, 9}), "10", 0},
		{"an arc of Room 0 beside another one", netWith(3, [4]int{0, 1, 0, 9}, [4]int{0, 2, 6, 9}), "100", 6},
		{"a row, its first arc", row, "10000", 3},
		{"a row, its second arc", row, "10100", 5},
		{"a row, its third arc", row, "10110", 7},
		{"a row, its last arc", row, "10111", 11},
		{"a row, two arcs and one back", row, "10010", 10},
		{"a row, the last node alone", row, "10001", 14},
		{"a row, three arcs and two back", row, "10101", 16},
		{"arcs within the false side", row, "10000", 3},
		{"arcs within the true side only", netWith(5, [4]int{0, 2, 3, 1}, [4]int{2, 3, 5, 1}, [4]int{3, 0, 7, 1}), "10110", 0},
		{"arcs within the false side only", netWith(5, [4]int{2, 3, 3, 1}, [4]int{3, 1, 5, 1}, [4]int{1, 4, 7, 1}), "10000", 0},
		{"arcs within both sides only", netWith(5, [4]int{0, 2, 3, 1}, [4]int{2, 0, 4, 1}, [4]int{1, 3, 5, 1}, [4]int{3, 4, 7, 1}), "10100", 0},
		{"only arcs from false to true", back, "10001", 3},
		{"from false to true beside the others", back, "10100", 6},
		{"a cut whose arcs all lead back", back, "10101", 0},
		{"the costs do not count", netWith(3, [4]int{0, 2, 1, 100}, [4]int{2, 1, 1, 50}), "101", 1},
	}
	for _, c := range cases {
		side := sideOf(c.side)
		if got := impl.CutRoom(c.n, side); got != c.want || !impl.CutOk(c.n, side) {
			t.Errorf("%s: CutRoom(%+v, %s) = %d, want %d, and CutOk is %v", c.name, c.n, c.side, got, c.want, impl.CutOk(c.n, side))
		}
		checkLeastCut(t, c.n)
	}
}

func TestStoppedTables(t *testing.T) {
	n := exampleNet()
	equal := netWith(5, [4]int{0, 2, 2, 1}, [4]int{2, 3, 2, 1}, [4]int{3, 4, 5, 1}, [4]int{4, 1, 2, 1})
	turning := netWith(3, [4]int{0, 2, 3, 1}, [4]int{2, 0, 3, 1}, [4]int{2, 1, 2, 1}, [4]int{1, 2, 2, 1})
	back := netWith(3, [4]int{1, 2, 1, 1}, [4]int{2, 0, 1, 1})
	cases := []struct {
		name string
		n    impl.Net
		flow []int
		side string
		want bool
	}{
		{"greatest flow, the cut of MostFlow", n, []int{2, 1, 1, 1, 2}, "1000", true},
		{"greatest flow, another cut of this capacity", n, []int{2, 1, 1, 1, 2}, "1011", true},
		{"greatest flow, a cut of more capacity", n, []int{2, 1, 1, 1, 2}, "1001", false},
		{"one unit less", n, []int{2, 0, 1, 1, 1}, "1000", false},
		{"zero flow", n, []int{0, 0, 0, 0, 0}, "1000", false},
		{"not balanced", n, []int{2, 1, 0, 1, 2}, "1000", false},
		{"above Room", n, []int{3, 0, 2, 1, 2}, "1000", false},
		{"below 0", n, []int{2, 1, -1, 3, 0}, "1000", false},
		{"one number too few", n, []int{2, 1, 1, 1}, "1000", false},
		{"one number too many", n, []int{2, 1, 1, 1, 2, 0}, "1000", false},
		{"no numbers", n, nil, "1000", false},
		{"one element too few", n, []int{2, 1, 1, 1, 2}, "100", false},
		{"one element too many", n, []int{2, 1, 1, 1, 2}, "10000", false},
		{"false for node 0", n, []int{2, 1, 1, 1, 2}, "0000", false},
		{"true for node 1", n, []int{2, 1, 1, 1, 2}, "1100", false},
		{"neither a flow nor a cut", n, []int{2, 1, 0, 1, 2}, "1100", false},
		{"no numbers and no elements", n, nil, "", false},
		{"the first of equal cuts", equal, []int{2, 2, 2, 2}, "10000", true},
		{"the second of equal cuts", equal, []int{2, 2, 2, 2}, "10100", true},
		{"the greater cut between equal ones", equal, []int{2, 2, 2, 2}, "10110", false},
		{"the last of equal cuts", equal, []int{2, 2, 2, 2}, "10111", true},
		{"one unit less, the first of equal cuts", equal, []int{1, 1, 1, 1}, "10000", false},
		{"one unit less, the last of equal cuts", equal, []int{1, 1, 1, 1}, "10111", false},
		{"with a unit back into node 0", turning, []int{3, 1, 2, 0}, "101", true},
		{"with a unit back out of node 1", turning, []int{2, 1, 2, 1}, "101", false},
		{"as much into node 0", turning, []int{3, 3, 0, 0}, "101", false},
		{"no arcs", netWith(4), nil, "1010", true},
		{"no arcs, one number", netWith(4), []int{0}, "1010", false},
		{"zero flow, a cut without capacity", rowNet(3, 0, 1), []int{0, 0}, "100", true},
		{"zero flow of size 0 between 1 and 0", back, []int{0, 0}, "100", true},
		{"a flow of size -1, a cut without capacity", back, []int{1, 1}, "100", false},
		{"a flow of size -1, no cut", back, []int{1, 1}, "110", false},
		{"a flow of size -1, no elements", back, []int{1, 1}, "", false},
	}
	for _, c := range cases {
		if got := impl.Stopped(c.n, c.flow, sideOf(c.side)); got != c.want {
			t.Errorf("%s: Stopped(%+v, %v, %s) is %v", c.name, c.n, c.flow, c.side, got)
		}
	}
	checkAllCuts(t, equal)
	checkAllCuts(t, turning)
	checkAllCuts(t, back)
}

// Stopped of lists with one fault each, beside greatest flows and least cuts.
func TestStoppedWithFaults(t *testing.T) {
	for _, r := range mixedNets() {
		_, cut := checkMost(t, r.net)
		flow := plainMost(r.net)
		for _, list := range notFlows(r.net, flow) {
			if impl.Stopped(r.net, list, cut) {
				t.Errorf("Stopped(%+v, %v, %v) is true", r.net, list, cut)
			}
		}
		for _, node := range []int{0, 1} {
			other := slices.Clone(cut)
			other[node] = !other[node]
			checkNoCut(t, r.net, other)
			if impl.Stopped(r.net, flow, other) {
				t.Errorf("Stopped(%+v, %v, %v) is true", r.net, flow, other)
			}
		}
		for _, other := range [][]bool{nil, cut[:len(cut)-1], append(slices.Clone(cut), false), append(slices.Clone(cut), true)} {
			checkNoCut(t, r.net, other)
			if impl.Stopped(r.net, flow, other) {
				t.Errorf("Stopped(%+v, %v, %v) is true", r.net, flow, other)
			}
		}
	}
}

// sidesFor has lists of which one would be a cut if the network were valid, as far as there can be such a list.
func sidesFor(n impl.Net) [][]bool {
	sides := [][]bool{nil, {}}
	for _, length := range []int{1, 2, 4, n.Nodes} {
		if length >= 1 && length <= impl.MaxNetNodes+1 {
			side := make([]bool, length)
			side[0] = true
			sides = append(sides, side)
		}
	}
	return sides
}

func TestMostOfInvalidNets(t *testing.T) {
	for _, n := range invalidNets() {
		if size, cut := impl.MostFlow(n); size != -1 || len(cut) != 0 {
			t.Errorf("MostFlow of %d nodes and %d arcs = %d and %d elements", n.Nodes, len(n.Arcs), size, len(cut))
		}
		for _, side := range sidesFor(n) {
			checkNoCut(t, n, side)
		}
	}
}

// wideNet has arcs from node 0 to the nodes of a layer, between layers, and from the last layer to node 1, which all have the most Room at both ends.
func wideNet(s *numbers, layers int, most int) impl.Net {
	n := impl.Net{Nodes: impl.MaxNetNodes}
	width := (impl.MaxNetNodes - 2) / layers
	for k := range width {
		n.Arcs = append(n.Arcs, impl.Arc{From: 0, To: 2 + k, Room: most}, impl.Arc{From: 2 + (layers-1)*width + k, To: 1, Room: most})
	}
	for len(n.Arcs) < impl.MaxArcs {
		layer := len(n.Arcs) % (layers - 1)
		from, to := 2+layer*width+s.below(width), 2+(layer+1)*width+s.below(width)
		n.Arcs = append(n.Arcs, impl.Arc{From: from, To: to, Room: 1 + s.below(most), Cost: s.below(impl.MaxCost + 1)})
	}
	return n
}

func TestMostOfLargestNets(t *testing.T) {
	bottleneck := largestNets()[2]
	bottleneck.Arcs = append(slices.Clone(bottleneck.Arcs[:1499]), slices.Repeat([]impl.Arc{{From: 1, To: 700, Room: 20}}, 1701)...)
	bottleneck.Arcs[900].Room = 13
	sizes := []int{4080, 0, 34040, 34020, 64000, 0, 13}
	reached := []int{1, 1, 1, 1, 1, 1, 901}
	for i, n := range append(largestNets(), bottleneck) {
		if n.Nodes != impl.MaxNetNodes || len(n.Arcs) != impl.MaxArcs {
			t.Fatalf("the network %d has %d nodes and %d arcs", i, n.Nodes, len(n.Arcs))
		}
		for _, m := range []impl.Net{n, inReverse(n)} {
			size, cut := checkMost(t, m)
			if size != sizes[i] || countReached(cut) != reached[i] {
				t.Errorf("network %d: MostFlow is %d with %d nodes, want %d with %d", i, size, countReached(cut), sizes[i], reached[i])
			}
			checkLargestCuts(t, m, cut)
		}
	}
}

// checkLargestCuts checks the functions of a cut in a network that is too large for all cuts.
func checkLargestCuts(t *testing.T, n impl.Net, cut []bool) {
	t.Helper()
	flow := plainMost(n)
	size := plainSize(n, flow)
	for kind := 2; kind < 7; kind++ {
		side := slices.Clone(cut)
		for node := kind; node < n.Nodes; node += kind {
			side[node] = !side[node]
		}
		room := plainCutRoom(n, side)
		if got := impl.CutRoom(n, side); !impl.CutOk(n, side) || got != room || got < size {
			t.Errorf("CutRoom of %d nodes is %d, want %d", n.Nodes, got, room)
		}
		if got := impl.Stopped(n, flow, side); got != (room == size) {
			t.Errorf("Stopped is %v, with the size %d and the capacity %d", got, size, room)
		}
	}
	if size > 0 && impl.Stopped(n, sameFlow(n, 0), cut) {
		t.Errorf("Stopped of the zero flow is true, with the size %d", size)
	}
	for _, side := range [][]bool{nil, cut[:len(cut)-1], append(slices.Clone(cut), false)} {
		checkNoCut(t, n, side)
	}
}

// Promise 7 in networks with MaxNetNodes nodes and MaxArcs arcs in which many paths have to be taken back.
func TestMostOfWideNets(t *testing.T) {
	s := numbers(77)
	for _, layers := range []int{2, 3, 7, 40} {
		for _, most := range []int{1, 2, impl.MaxRoom} {
			n := wideNet(&s, layers, most)
			if n.Nodes != impl.MaxNetNodes || len(n.Arcs) != impl.MaxArcs || !impl.NetOk(n) {
				t.Fatalf("%d nodes and %d arcs, and NetOk is %v", n.Nodes, len(n.Arcs), impl.NetOk(n))
			}
			size, cut := checkMost(t, n)
			if size == 0 || countReached(cut) < 2 {
				t.Errorf("%d layers with Room %d: size %d and %d nodes", layers, most, size, countReached(cut))
			}
			checkLargestCuts(t, n, cut)
		}
	}
	for range 5 {
		n := wildNet(&s, impl.MaxNetNodes, impl.MaxArcs, impl.MaxRoom)
		_, cut := checkMost(t, n)
		checkLargestCuts(t, n, cut)
	}
}

func TestMostResultsAreNew(t *testing.T) {
	nets := []impl.Net{netWith(2), netWith(5), exampleNet(), rowNet(6, 3, 1), largestNets()[0]}
	for _, r := range mixedNets() {
		nets = append(nets, r.net)
	}
	for _, n := range nets {
		size, first := impl.MostFlow(n)
		_, second := impl.MostFlow(n)
		want := slices.Clone(first)
		spoilFlags(first)
		if !slices.Equal(second, want) {
			t.Errorf("MostFlow(%+v) shares memory with an earlier result", n)
		}
		spoilFlags(second)
		if again, third := impl.MostFlow(n); again != size || !slices.Equal(third, want) {
			t.Errorf("MostFlow(%+v) = %d and %v, want %d and %v", n, again, third, size, want)
		}
	}
}

// checkCutsKept checks that the functions leave a network, a flow, a side, and the memory behind them as they are.
func checkCutsKept(t *testing.T, n impl.Net, flow []int, side []bool) {
	t.Helper()
	arcs := withRoomBehind(n.Arcs, 20, impl.Arc{From: 9, To: 9, Room: 9, Cost: 9})
	list, flags := withRoomBehind(flow, 20, 99), withRoomBehind(side, 20, true)
	keptArcs, keptList, keptFlags := slices.Clone(arcs), slices.Clone(list), slices.Clone(flags)
	m := impl.Net{Nodes: n.Nodes, Arcs: arcs[:len(n.Arcs)]}
	impl.MostFlow(m)
	impl.CutOk(m, flags[:len(side)])
	impl.CutRoom(m, flags[:len(side)])
	impl.Stopped(m, list[:len(flow)], flags[:len(side)])
	if !slices.Equal(arcs, keptArcs) || !slices.Equal(list, keptList) || !slices.Equal(flags, keptFlags) {
		t.Errorf("the arcs %+v, the list %v, the list %v or the memory behind them changed", n.Arcs, flow, side)
	}
}

func TestMostKeepsItsArguments(t *testing.T) {
	nets := append(largestNets(), netWith(2), netWith(5), exampleNet())
	for _, r := range mixedNets() {
		nets = append(nets, r.net)
	}
	for _, n := range nets {
		_, cut := impl.MostFlow(n)
		checkCutsKept(t, n, sameFlow(n, 0), cut)
		checkCutsKept(t, n, fullFlow(n), cut[:len(cut)-1])
		checkCutsKept(t, n, plainMost(n), make([]bool, n.Nodes))
	}
	for _, n := range invalidNets() {
		for _, side := range sidesFor(n) {
			checkCutsKept(t, n, sameFlow(n, 0), side)
		}
	}
}
