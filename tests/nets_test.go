package tests

import (
	"math"
	"slices"
	"testing"

	"loop.example/g00961/impl"
)

// netWith is a network of the given arcs, each written as From, To, Room and Cost.
func netWith(nodes int, arcs ...[4]int) impl.Net {
	n := impl.Net{Nodes: nodes}
	for _, a := range arcs {
		n.Arcs = append(n.Arcs, impl.Arc{From: a[0], To: a[1], Room: a[2], Cost: a[3]})
	}
	return n
}

func exampleNet() impl.Net {
	return netWith(4, [4]int{0, 2, 2, 1}, [4]int{0, 3, 1, 5}, [4]int{2, 3, 1, 1}, [4]int{2, 1, 1, 4}, [4]int{3, 1, 2, 1})
}

// rowNet leads from node 0 over all other nodes to node 1.
func rowNet(nodes int, room int, cost int) impl.Net {
	n := impl.Net{Nodes: nodes}
	for from, to := 0, 2; from != 1; from, to = to, to+1 {
		if to == nodes {
			to = 1
		}
		n.Arcs = append(n.Arcs, impl.Arc{From: from, To: to, Room: room, Cost: cost})
	}
	return n
}

// turned has the arcs of n in the other direction.
func turned(n impl.Net) impl.Net {
	m := impl.Net{Nodes: n.Nodes}
	for _, a := range n.Arcs {
		m.Arcs = append(m.Arcs, impl.Arc{From: a.To, To: a.From, Room: a.Room, Cost: a.Cost})
	}
	return m
}

// filled has the given arc at its end until it has MaxArcs arcs.
func filled(n impl.Net, a impl.Arc) impl.Net {
	arcs := append(slices.Clone(n.Arcs), slices.Repeat([]impl.Arc{a}, impl.MaxArcs-len(n.Arcs))...)
	return impl.Net{Nodes: n.Nodes, Arcs: arcs}
}

// largestNets have MaxNetNodes nodes and MaxArcs arcs: in rows, side by side, and into node 0.
func largestNets() []impl.Net {
	row := rowNet(impl.MaxNetNodes, impl.MaxRoom, impl.MaxCost)
	two := impl.Net{Nodes: row.Nodes, Arcs: slices.Concat(row.Arcs, row.Arcs)}
	direct := impl.Arc{From: 0, To: 1, Room: impl.MaxRoom, Cost: impl.MaxCost}
	back := impl.Arc{From: 1, To: 0, Room: impl.MaxRoom, Cost: impl.MaxCost}
	last := impl.Arc{From: impl.MaxNetNodes - 1, To: 1, Room: impl.MaxRoom}
	return []impl.Net{
		filled(two, direct), filled(turned(two), back), filled(row, direct), filled(turned(row), direct),
		filled(netWith(impl.MaxNetNodes), direct), filled(netWith(impl.MaxNetNodes), last),
	}
}

// sameFlow has the same number for each arc.
func sameFlow(n impl.Net, units int) []int { return slices.Repeat([]int{units}, len(n.Arcs)) }

// fullFlow has the Room of each arc.
func fullFlow(n impl.Net) []int {
	var flow []int
	for _, a := range n.Arcs {
		flow = append(flow, a.Room)
	}
	return flow
}

// plainFlowOk adds up the inflow and the outflow of each node apart from each other, for a network that is valid.
func plainFlowOk(n impl.Net, flow []int) bool {
	if len(flow) != len(n.Arcs) {
		return false
	}
	inflow, outflow := map[int]int{}, map[int]int{}
	for i, a := range n.Arcs {
		if flow[i] < 0 || flow[i] > a.Room {
			return false
		}
		outflow[a.From] += flow[i]
		inflow[a.To] += flow[i]
	}
	for node := 2; node < n.Nodes; node++ {
		if inflow[node] != outflow[node] {
			return false
		}
	}
	return true
}

// plainSize is what a flow brings into node 1, which is what leaves node 0.
func plainSize(n impl.Net, flow []int) int {
	size := 0
	for i, a := range n.Arcs {
		if a.To == 1 {
			size += flow[i]
		}
		if a.From == 1 {
			size -= flow[i]
		}
	}
	return size
}

func plainCost(n impl.Net, flow []int) int {
	cost := 0
	for i, a := range n.Arcs {
		for range flow[i] {
			cost += a.Cost
		}
	}
	return cost
}

// plainReached visits all arcs, without a search, until no further node is reached.
func plainReached(n impl.Net, flow []int) []bool {
	reached := make([]bool, n.Nodes)
	reached[0] = true
	for changed := true; changed; {
		changed = false
		for i, a := range n.Arcs {
			if reached[a.From] && !reached[a.To] && flow[i] < a.Room {
				reached[a.To], changed = true, true
			}
			if reached[a.To] && !reached[a.From] && flow[i] > 0 {
				reached[a.From], changed = true, true
			}
		}
	}
	return reached
}

// checkFlow checks the functions of one list in a valid network, and tells whether the list is a flow.
func checkFlow(t *testing.T, n impl.Net, flow []int) bool {
	t.Helper()
	if !plainFlowOk(n, flow) {
		checkNoFlow(t, n, flow)
		return false
	}
	if !impl.FlowOk(n, flow) {
		t.Errorf("FlowOk(%+v, %v) is false", n, flow)
	}
	if got, want := impl.FlowSize(n, flow), plainSize(n, flow); got != want {
		t.Errorf("FlowSize(%+v, %v) = %d, want %d", n, flow, got, want)
	}
	if got, want := impl.FlowCost(n, flow), plainCost(n, flow); got != want {
		t.Errorf("FlowCost(%+v, %v) = %d, want %d", n, flow, got, want)
	}
	if got, want := impl.ReachedBy(n, flow), plainReached(n, flow); !slices.Equal(got, want) {
		t.Errorf("ReachedBy(%+v, %v) = %v, want %v", n, flow, got, want)
	}
	return true
}

// checkNoFlow checks what the chapter states for a network that is not valid or a list that is not a flow.
func checkNoFlow(t *testing.T, n impl.Net, list []int) {
	t.Helper()
	if impl.FlowOk(n, list) {
		t.Errorf("FlowOk(%+v, %v) is true", n, list)
	}
	if size, cost := impl.FlowSize(n, list), impl.FlowCost(n, list); size != -1 || cost != -1 {
		t.Errorf("FlowSize and FlowCost(%+v, %v) = %d and %d, want -1", n, list, size, cost)
	}
	if got := impl.ReachedBy(n, list); len(got) != 0 {
		t.Errorf("ReachedBy(%+v, %v) = %v, want nil", n, list, got)
	}
	for _, other := range [][]int{nil, list, sameFlow(n, 0)} {
		if got := impl.FlowMore(n, list, other); len(got) != 0 {
			t.Errorf("FlowMore(%+v, %v, %v) = %v, want nil", n, list, other, got)
		}
		if got := impl.FlowMore(n, other, list); len(got) != 0 {
			t.Errorf("FlowMore(%+v, %v, %v) = %v, want nil", n, other, list, got)
		}
	}
}

// checkSum checks FlowMore of two flows, and promise 6 if their sum is a flow, which it tells.
func checkSum(t *testing.T, n impl.Net, a []int, b []int) bool {
	t.Helper()
	var want []int
	for i := range a {
		want = append(want, a[i]+b[i])
	}
	got, other := impl.FlowMore(n, a, b), impl.FlowMore(n, b, a)
	if !plainFlowOk(n, want) {
		if len(got) != 0 || len(other) != 0 {
			t.Errorf("FlowMore(%+v) of %v and %v = %v and %v, want nil", n, a, b, got, other)
		}
		return false
	}
	if !slices.Equal(got, want) || !slices.Equal(other, want) {
		t.Errorf("FlowMore(%+v) of %v and %v = %v and %v, want %v", n, a, b, got, other, want)
		return true
	}
	if size := impl.FlowSize(n, a) + impl.FlowSize(n, b); impl.FlowSize(n, got) != size {
		t.Errorf("FlowSize(%+v) of the sum of %v and %v = %d, want %d", n, a, b, impl.FlowSize(n, got), size)
	}
	if cost := impl.FlowCost(n, a) + impl.FlowCost(n, b); impl.FlowCost(n, got) != cost {
		t.Errorf("FlowCost(%+v) of the sum of %v and %v = %d, want %d", n, a, b, impl.FlowCost(n, got), cost)
	}
	return true
}

// listsFor has each list with numbers from -1 to one above the Room of its arc.
func listsFor(arcs []impl.Arc) [][]int {
	if len(arcs) == 0 {
		return [][]int{nil}
	}
	last := len(arcs) - 1
	var lists [][]int
	for _, list := range listsFor(arcs[:last]) {
		for units := -1; units <= arcs[last].Room+1; units++ {
			lists = append(lists, append(slices.Clone(list), units))
		}
	}
	return lists
}

// checkAllFlows checks all lists of a small network and all pairs of its flows, and counts the flows and the sums that are flows.
func checkAllFlows(t *testing.T, n impl.Net) (int, int) {
	t.Helper()
	var flows [][]int
	for _, list := range listsFor(n.Arcs) {
		if checkFlow(t, n, list) {
			flows = append(flows, list)
		}
	}
	sums := 0
	for i, a := range flows {
		for _, b := range flows[i:] {
			if checkSum(t, n, a, b) {
				sums++
			}
		}
	}
	return len(flows), sums
}

// smallNets has each network of 3 nodes with at most 3 arcs of the given rooms, with costs that differ.
func smallNets(rooms ...int) []impl.Net {
	nets := []impl.Net{netWith(3)}
	for first := 0; len(nets[first].Arcs) < 3; first++ {
		n := nets[first]
		for from := range 3 {
			for to := range 3 {
				for _, room := range rooms {
					if from != to {
						arc := impl.Arc{From: from, To: to, Room: room, Cost: 7*len(n.Arcs)*len(n.Arcs) + 3*room}
						nets = append(nets, impl.Net{Nodes: 3, Arcs: append(slices.Clone(n.Arcs), arc)})
					}
				}
			}
		}
	}
	return nets
}

// numbers is a source of numbers that are the same in each run.
type numbers uint64

func (s *numbers) below(n int) int {
	*s = *s*6364136223846793005 + 1442695040888963407
	return int(uint64(*s) >> 33 % uint64(n))
}

// route is a path from node 0 to node 1 or back, or a ring, with arcs of its own.
type route struct {
	arcs []int
	most int // units
	size int // of one unit
}

// routedNet is a network whose routes, with some units on each, are a flow.
type routedNet struct {
	net    impl.Net
	routes []route
}

func (r routedNet) flow(units []int) []int {
	flow := sameFlow(r.net, 0)
	for i, w := range r.routes {
		for _, a := range w.arcs {
			flow[a] = units[i]
		}
	}
	return flow
}

func (r routedNet) size(units []int) int {
	size := 0
	for i, w := range r.routes {
		size += units[i] * w.size
	}
	return size
}

// nodesOfRoute begins and ends at one of the nodes 0 and 1, or returns to where it began.
func nodesOfRoute(s *numbers, nodes int) []int {
	begin := s.below(nodes)
	end := begin
	if begin < 2 && s.below(4) > 0 {
		end = 1 - begin
	}
	way := []int{begin}
	for range s.below(6) {
		if next := s.below(nodes); next != way[len(way)-1] {
			way = append(way, next)
		}
	}
	if way[len(way)-1] != end {
		way = append(way, end)
	}
	return way
}

// mixedNets has networks with parallel arcs and arcs in both directions, some of them in no route, in an order that follows no route.
func mixedNets() []routedNet {
	var nets []routedNet
	s := numbers(6)
	for count := range 150 {
		r := routedNet{net: impl.Net{Nodes: 2 + count%9}}
		for range 1 + s.below(8) {
			way := nodesOfRoute(&s, r.net.Nodes)
			// A unit has size 1 from node 0 to node 1, -1 back, and 0 on a ring.
			w := route{most: 1 + s.below(impl.MaxRoom), size: way[len(way)-1] - way[0]}
			for i := 1; i < len(way); i++ {
				room := min(impl.MaxRoom, w.most+s.below(2)*s.below(5))
				w.arcs = append(w.arcs, len(r.net.Arcs))
				r.net.Arcs = append(r.net.Arcs, impl.Arc{From: way[i-1], To: way[i], Room: room, Cost: s.below(impl.MaxCost + 1)})
			}
			r.routes = append(r.routes, w)
		}
		for range s.below(4) {
			from := s.below(r.net.Nodes)
			to := (from + 1 + s.below(r.net.Nodes-1)) % r.net.Nodes
			r.net.Arcs = append(r.net.Arcs, impl.Arc{From: from, To: to, Room: s.below(3), Cost: s.below(impl.MaxCost + 1)})
		}
		nets = append(nets, r.shuffled(&s))
	}
	return nets
}

func (r routedNet) shuffled(s *numbers) routedNet {
	arcs := r.net.Arcs
	for i := len(arcs) - 1; i > 0; i-- {
		j := s.below(i + 1)
		arcs[i], arcs[j] = arcs[j], arcs[i]
		for _, w := range r.routes {
			for k, a := range w.arcs {
				if a == i {
					w.arcs[k] = j
				} else if a == j {
					w.arcs[k] = i
				}
			}
		}
	}
	return r
}

// unitsOf has units for the routes: none, the most on all, and some of them.
func unitsOf(s *numbers, routes []route) [][]int {
	var lists [][]int
	for kind := range 7 {
		units := make([]int, len(routes))
		for i, w := range routes {
			switch {
			case kind == 1 || kind == 2 && s.below(2) == 0:
				units[i] = w.most
			case kind == 3:
				units[i] = w.most / 2
			case kind > 3:
				units[i] = s.below(w.most + 1)
			}
		}
		lists = append(lists, units)
	}
	return lists
}

// invalidNets has one fault in each network; without it, its lists of zeros would be flows.
func invalidNets() []impl.Net {
	nets := []impl.Net{
		{}, {Nodes: 1}, {Nodes: -1}, {Nodes: math.MinInt}, {Nodes: math.MaxInt}, {Nodes: impl.MaxNetNodes + 1}, {Nodes: 1 << 32},
		netWith(1, [4]int{0, 0, 1, 1}), netWith(1, [4]int{0, 1, 1, 1}), netWith(0, [4]int{0, 1, 1, 1}),
		netWith(impl.MaxNetNodes+1, [4]int{0, 1, 1, 1}), netWith(math.MaxInt, [4]int{0, 1, 1, 1}), netWith(math.MinInt, [4]int{0, 1, 1, 1}),
		rowNet(impl.MaxNetNodes+1, 1, 1),
		{Nodes: 2, Arcs: slices.Repeat([]impl.Arc{{From: 0, To: 1, Room: 1}}, impl.MaxArcs+1)},
	}
	for _, n := range largestNets() {
		nets = append(nets, impl.Net{Nodes: n.Nodes + 1, Arcs: n.Arcs}, impl.Net{Nodes: n.Nodes, Arcs: append(slices.Clone(n.Arcs), n.Arcs[0])})
	}
	for _, bad := range badArcs(4) {
		for place := range 6 {
			n := exampleNet()
			n.Arcs = slices.Insert(n.Arcs, place, bad)
			nets = append(nets, n)
		}
	}
	return nets
}

// badArcs has arcs with one fault each for a network with the given nodes.
func badArcs(nodes int) []impl.Arc {
	var bad []impl.Arc
	for _, node := range []int{-1, -2, nodes, nodes + 1, impl.MaxNetNodes, math.MinInt, math.MaxInt, 1 << 32} {
		if node < 0 || node >= nodes {
			bad = append(bad, impl.Arc{From: node, To: 1, Room: 1}, impl.Arc{From: 0, To: node, Room: 1})
		}
	}
	for node := -1; node <= nodes; node++ {
		bad = append(bad, impl.Arc{From: node, To: node, Room: 1})
	}
	for _, room := range []int{-1, -2, impl.MaxRoom + 1, impl.MaxRoom + 2, math.MinInt, math.MaxInt, 1 << 32} {
		bad = append(bad, impl.Arc{From: 0, To: 1, Room: room})
	}
	for _, cost := range []int{-1, -2, impl.MaxCost + 1, impl.MaxCost + 2, math.MinInt, math.MaxInt, 1 << 32} {
		bad = append(bad, impl.Arc{From: 0, To: 1, Room: 1, Cost: cost})
	}
	return bad
}

func TestNetsLimits(t *testing.T) {
	if impl.MaxNetNodes != 1500 || impl.MaxArcs != 3200 || impl.MaxRoom != 20 || impl.MaxCost != 100 {
		t.Errorf("MaxNetNodes, MaxArcs, MaxRoom, MaxCost = %d, %d, %d, %d", impl.MaxNetNodes, impl.MaxArcs, impl.MaxRoom, impl.MaxCost)
	}
}

func TestNetsExample(t *testing.T) {
	n := exampleNet()
	cases := []struct {
		flow    []int
		size    int
		cost    int
		reached []bool
	}{
		{[]int{0, 0, 0, 0, 0}, 0, 0, []bool{true, true, true, true}},
		{[]int{1, 0, 1, 0, 1}, 1, 3, []bool{true, true, true, true}},
		{[]int{1, 0, 0, 1, 0}, 1, 5, []bool{true, true, true, true}},
		{[]int{0, 1, 0, 0, 1}, 1, 6, []bool{true, true, true, true}},
		{[]int{2, 0, 1, 1, 1}, 2, 8, []bool{true, true, true, true}},
		{[]int{2, 1, 1, 1, 2}, 3, 14, []bool{true, false, false, false}},
	}
	if !impl.NetOk(n) {
		t.Error("NetOk of the example is false")
	}
	for _, c := range cases {
		checkFlow(t, n, c.flow)
		if ok, size, cost := impl.FlowOk(n, c.flow), impl.FlowSize(n, c.flow), impl.FlowCost(n, c.flow); !ok || size != c.size || cost != c.cost {
			t.Errorf("FlowOk, FlowSize, FlowCost of %v = %v, %d, %d", c.flow, ok, size, cost)
		}
		if got := impl.ReachedBy(n, c.flow); !slices.Equal(got, c.reached) {
			t.Errorf("ReachedBy of %v = %v, want %v", c.flow, got, c.reached)
		}
	}
	if got := impl.FlowMore(n, cases[1].flow, cases[2].flow); !slices.Equal(got, cases[4].flow) {
		t.Errorf("FlowMore of the example = %v, want %v", got, cases[4].flow)
	}
	if flows, sums := checkAllFlows(t, n); flows == 0 || sums == 0 {
		t.Errorf("the example has %d flows and %d sums", flows, sums)
	}
}

func TestNetOkNodes(t *testing.T) {
	for _, nodes := range []int{2, 3, 4, impl.MaxNetNodes - 1, impl.MaxNetNodes} {
		last := nodes - 1
		for _, n := range []impl.Net{
			netWith(nodes), {Nodes: nodes, Arcs: []impl.Arc{}}, rowNet(nodes, 1, 1),
			netWith(nodes, [4]int{0, last, 1, 1}), netWith(nodes, [4]int{last, 0, 1, 1}),
		} {
			if !impl.NetOk(n) {
				t.Errorf("NetOk(%+v) is false", n)
			}
		}
	}
	for _, n := range invalidNets() {
		if impl.NetOk(n) {
			t.Errorf("NetOk(%+v) is true", n)
		}
	}
}

func TestNetOkNumberOfArcs(t *testing.T) {
	for _, count := range []int{0, 1, 2, impl.MaxArcs - 1, impl.MaxArcs, impl.MaxArcs + 1, impl.MaxArcs + 2, 2 * impl.MaxArcs} {
		for _, nodes := range []int{2, 3, impl.MaxNetNodes} {
			n := impl.Net{Nodes: nodes, Arcs: slices.Repeat([]impl.Arc{{From: nodes - 1, To: 0, Room: 3, Cost: 3}}, count)}
			if got := impl.NetOk(n); got != (count <= impl.MaxArcs) {
				t.Errorf("NetOk of %d nodes and %d arcs is %v", nodes, count, got)
			}
		}
	}
}

// Each of the four numbers of an arc from below its range to above it, as the first, a middle and the last arc.
func TestNetOkArcs(t *testing.T) {
	for _, nodes := range []int{2, 3, 4, impl.MaxNetNodes} {
		for _, arcs := range [][]impl.Arc{nil, rowNet(nodes, 2, 5).Arcs} {
			for _, place := range []int{0, len(arcs) / 2, len(arcs)} {
				checkArcAt(t, impl.Net{Nodes: nodes, Arcs: arcs}, place)
			}
		}
	}
}

func checkArcAt(t *testing.T, n impl.Net, place int) {
	t.Helper()
	with := func(a impl.Arc) impl.Net {
		return impl.Net{Nodes: n.Nodes, Arcs: slices.Insert(slices.Clone(n.Arcs), place, a)}
	}
	ends := []int{-1, 0, 1, n.Nodes - 1, n.Nodes}
	for _, from := range ends {
		for _, to := range ends {
			want := from != to && from >= 0 && to >= 0 && from < n.Nodes && to < n.Nodes
			if got := impl.NetOk(with(impl.Arc{From: from, To: to, Room: 1, Cost: 1})); got != want {
				t.Errorf("NetOk of %d nodes with an arc from %d to %d at %d is %v", n.Nodes, from, to, place, got)
			}
		}
	}
	for _, room := range []int{-1, 0, 1, impl.MaxRoom, impl.MaxRoom + 1} {
		for _, cost := range []int{-1, 0, 1, impl.MaxCost, impl.MaxCost + 1} {
			want := room >= 0 && room <= impl.MaxRoom && cost >= 0 && cost <= impl.MaxCost
			if got := impl.NetOk(with(impl.Arc{From: 1, To: 0, Room: room, Cost: cost})); got != want {
				t.Errorf("NetOk of %d nodes with Room %d and Cost %d at %d is %v", n.Nodes, room, cost, place, got)
			}
		}
	}
	for _, bad := range badArcs(n.Nodes) {
		if impl.NetOk(with(bad)) {
			t.Errorf("NetOk of %d nodes with %+v at %d is true", n.Nodes, bad, place)
		}
	}
}

func TestNetOkPairsOfArcs(t *testing.T) {
	for _, n := range []impl.Net{
		netWith(2, [4]int{0, 1, 1, 1}, [4]int{0, 1, 1, 1}),
		netWith(2, [4]int{0, 1, 1, 1}, [4]int{0, 1, 2, 3}),
		netWith(2, [4]int{0, 1, 1, 1}, [4]int{1, 0, 1, 1}),
		netWith(4, [4]int{2, 3, 0, 0}, [4]int{3, 2, 0, 0}, [4]int{2, 3, 20, 100}, [4]int{3, 2, 20, 100}),
		netWith(3, [4]int{0, 2, 1, 1}, [4]int{2, 0, 1, 1}, [4]int{1, 2, 1, 1}, [4]int{2, 1, 1, 1}),
	} {
		if !impl.NetOk(n) {
			t.Errorf("NetOk(%+v) is false", n)
		}
	}
}

func TestFlowOkTables(t *testing.T) {
	row := rowNet(4, 3, 1)
	fork := netWith(5, [4]int{0, 2, 3, 1}, [4]int{2, 3, 3, 1}, [4]int{2, 4, 3, 1}, [4]int{3, 1, 3, 1}, [4]int{4, 1, 3, 1})
	ring := netWith(5, [4]int{2, 3, 2, 1}, [4]int{3, 4, 2, 1}, [4]int{4, 2, 2, 1})
	both := netWith(3, [4]int{0, 2, 2, 1}, [4]int{2, 0, 2, 1}, [4]int{1, 2, 2, 1}, [4]int{2, 1, 2, 1})
	cases := []struct {
		name string
		n    impl.Net
		flow []int
		want bool
	}{
		{"zero flow", row, []int{0, 0, 0}, true},
		{"nodes 0 and 1 differ by one", row, []int{1, 1, 1}, true},
		{"at Room", row, []int{3, 3, 3}, true},
		{"one above Room", row, []int{4, 4, 4}, false},
		{"one above Room, first arc only", row, []int{4, 3, 3}, false},
		{"-1 on all arcs", row, []int{-1, -1, -1}, false},
		{"one more into node 2", row, []int{2, 1, 1}, false},
		{"one less into node 2", row, []int{0, 1, 1}, false},
		{"one more out of node 3", row, []int{1, 1, 2}, false},
		{"one less out of node 3", row, []int{1, 1, 0}, false},
		{"node 2 one less and node 3 one more", row, []int{1, 2, 1}, false},
		{"node 2 one more and node 3 one less", row, []int{1, 0, 1}, false},
		{"only the arc in the middle", row, []int{0, 1, 0}, false},
		{"one number too few", row, []int{1, 1}, false},
		{"one number too many", row, []int{1, 1, 1, 1}, false},
		{"one 0 too many", row, []int{1, 1, 1, 0}, false},
		{"zero flow, one number too few", row, []int{0, 0}, false},
		{"no numbers", row, nil, false},
		{"a fork", fork, []int{3, 1, 2, 1, 2}, true},
		{"a fork, one side only", fork, []int{2, 0, 2, 0, 2}, true},
		{"a fork, crossed", fork, []int{3, 1, 2, 2, 1}, false},
		{"a fork, one less on one side", fork, []int{3, 1, 1, 1, 1}, false},
		{"a fork, one more on one side", fork, []int{3, 2, 2, 2, 2}, false},
		{"a circulation beside nodes 0 and 1", ring, []int{1, 1, 1}, true},
		{"a circulation at Room", ring, []int{2, 2, 2}, true},
		{"a circulation, one arc more", ring, []int{1, 1, 2}, false},
		{"a circulation, one arc less", ring, []int{1, 0, 1}, false},
		{"circulations at nodes 0 and 1", both, []int{2, 2, 1, 1}, true},
		{"from node 1 to node 0", both, []int{0, 2, 2, 0}, true},
		{"in both directions", both, []int{2, 1, 1, 2}, true},
		{"in both directions, one less out of node 2", both, []int{2, 1, 1, 1}, false},
		{"in both directions, one more out of node 2", both, []int{1, 1, 1, 2}, false},
		{"out of node 0 only", netWith(2, [4]int{0, 1, 5, 0}), []int{5}, true},
		{"into node 0 only", netWith(2, [4]int{1, 0, 5, 0}), []int{5}, true},
		{"parallel arcs, one full", netWith(2, [4]int{0, 1, 2, 1}, [4]int{0, 1, 2, 1}), []int{2, 0}, true},
		{"parallel arcs, one too full", netWith(2, [4]int{0, 1, 2, 1}, [4]int{0, 1, 3, 1}), []int{3, 2}, false},
		{"Room 0", netWith(2, [4]int{0, 1, 0, 1}), []int{0}, true},
		{"Room 0, one above", netWith(2, [4]int{0, 1, 0, 1}), []int{1}, false},
		{"no arcs", netWith(2), nil, true},
		{"no arcs, an empty list", netWith(5), []int{}, true},
		{"no arcs, one number", netWith(2), []int{0}, false},
	}
	for _, c := range cases {
		checkFlow(t, c.n, c.flow)
		if got := impl.FlowOk(c.n, c.flow); got != c.want {
			t.Errorf("%s: FlowOk(%+v, %v) is %v", c.name, c.n, c.flow, got)
		}
	}
}

func TestFlowOkRange(t *testing.T) {
	for room := range impl.MaxRoom + 1 {
		for _, ends := range [][2]int{{0, 1}, {1, 0}} {
			n := netWith(2, [4]int{ends[0], ends[1], room, 1})
			for _, units := range []int{math.MinInt, -room - 1, -room, -2, -1, 0, room - 1, room, room + 1, impl.MaxRoom + 1, math.MaxInt, 1 << 32} {
				checkFlow(t, n, []int{units})
				if got := impl.FlowOk(n, []int{units}); got != (units >= 0 && units <= room) {
					t.Errorf("FlowOk of %d with Room %d is %v", units, room, got)
				}
			}
		}
	}
}

func TestFlowSizeTables(t *testing.T) {
	direct := netWith(2, [4]int{0, 1, 5, 1}, [4]int{1, 0, 5, 1})
	over := netWith(4, [4]int{0, 2, 3, 1}, [4]int{2, 0, 3, 1}, [4]int{2, 1, 3, 1}, [4]int{3, 0, 3, 1}, [4]int{1, 3, 3, 1})
	cases := []struct {
		name string
		n    impl.Net
		flow []int
		want int
	}{
		{"no arcs", netWith(2), nil, 0},
		{"zero flow", over, []int{0, 0, 0, 0, 0}, 0},
		{"out of node 0", direct, []int{5, 0}, 5},
		{"into node 0", direct, []int{0, 5}, -5},
		{"one unit into node 0", direct, []int{0, 1}, -1},
		{"as much into node 0", direct, []int{4, 4}, 0},
		{"more out of node 0", direct, []int{4, 1}, 3},
		{"less out of node 0", direct, []int{1, 4}, -3},
		{"over node 2", over, []int{3, 0, 3, 0, 0}, 3},
		{"over node 3 into node 0", over, []int{0, 0, 0, 3, 3}, -3},
		{"over node 2 and back over node 3", over, []int{2, 0, 2, 2, 2}, 0},
		{"from node 2 back into node 0", over, []int{3, 3, 0, 0, 0}, 0},
		{"partly back into node 0", over, []int{3, 1, 2, 0, 0}, 2},
		{"mostly into node 0", over, []int{3, 2, 1, 3, 3}, -2},
		{"a circulation without node 0", netWith(4, [4]int{1, 3, 2, 1}, [4]int{3, 1, 2, 1}), []int{2, 2}, 0},
		{"parallel arcs", netWith(2, [4]int{0, 1, 5, 1}, [4]int{0, 1, 5, 1}, [4]int{0, 1, 5, 1}), []int{1, 0, 5}, 6},
	}
	for _, c := range cases {
		checkFlow(t, c.n, c.flow)
		if got := impl.FlowSize(c.n, c.flow); got != c.want {
			t.Errorf("%s: FlowSize(%+v, %v) = %d, want %d", c.name, c.n, c.flow, got, c.want)
		}
	}
}

func TestFlowCostTables(t *testing.T) {
	cases := []struct {
		name string
		n    impl.Net
		flow []int
		want int
	}{
		{"no arcs", netWith(2), nil, 0},
		{"zero flow", rowNet(5, 20, 100), []int{0, 0, 0, 0}, 0},
		{"cost 0", rowNet(5, 20, 0), []int{20, 20, 20, 20}, 0},
		{"cost 1", rowNet(5, 20, 1), []int{20, 20, 20, 20}, 80},
		{"MaxCost", rowNet(5, 20, 100), []int{20, 20, 20, 20}, 8000},
		{"one arc of cost 0", netWith(3, [4]int{0, 2, 9, 0}, [4]int{2, 1, 9, 7}), []int{9, 9}, 63},
		{"into node 0", netWith(2, [4]int{1, 0, 9, 7}), []int{3}, 21},
		{"a circulation", netWith(4, [4]int{2, 3, 9, 7}, [4]int{3, 2, 9, 11}), []int{2, 2}, 36},
		{"both directions between 0 and 1", netWith(2, [4]int{0, 1, 9, 7}, [4]int{1, 0, 9, 11}), []int{2, 2}, 36},
		{"parallel arcs", netWith(2, [4]int{0, 1, 9, 7}, [4]int{0, 1, 9, 11}, [4]int{0, 1, 9, 13}), []int{2, 0, 1}, 27},
	}
	for _, c := range cases {
		checkFlow(t, c.n, c.flow)
		if got := impl.FlowCost(c.n, c.flow); got != c.want {
			t.Errorf("%s: FlowCost(%+v, %v) = %d, want %d", c.name, c.n, c.flow, got, c.want)
		}
	}
}

func TestReachedByTables(t *testing.T) {
	full := netWith(4, [4]int{0, 2, 1, 1}, [4]int{2, 3, 2, 1}, [4]int{3, 1, 3, 1})
	middle := netWith(4, [4]int{0, 2, 2, 1}, [4]int{2, 3, 1, 1}, [4]int{3, 1, 3, 1})
	end := netWith(4, [4]int{0, 2, 3, 1}, [4]int{2, 3, 2, 1}, [4]int{3, 1, 1, 1})
	back := netWith(6, [4]int{0, 3, 2, 1}, [4]int{2, 3, 1, 1}, [4]int{0, 2, 1, 1}, [4]int{3, 1, 2, 1}, [4]int{2, 4, 1, 1}, [4]int{1, 5, 1, 1})
	far := netWith(5, [4]int{0, 4, 2, 1}, [4]int{3, 4, 1, 1}, [4]int{2, 3, 1, 1}, [4]int{0, 2, 1, 1}, [4]int{4, 1, 2, 1})
	turning := netWith(3, [4]int{0, 2, 1, 1}, [4]int{2, 0, 1, 1})
	twin := netWith(3, [4]int{0, 2, 1, 1}, [4]int{0, 2, 2, 1}, [4]int{2, 1, 3, 1})
	past := netWith(4, [4]int{0, 1, 1, 1}, [4]int{1, 2, 1, 1}, [4]int{3, 2, 1, 1})
	cases := []struct {
		name string
		n    impl.Net
		flow []int
		want string // one digit for each node
	}{
		{"no arcs, two nodes", netWith(2), nil, "10"},
		{"no arcs, five nodes", netWith(5), nil, "10000"},
		{"zero flow", full, []int{0, 0, 0}, "1111"},
		{"the first arc full", full, []int{1, 1, 1}, "1000"},
		{"the middle arc full", middle, []int{1, 1, 1}, "1010"},
		{"the last arc full", end, []int{1, 1, 1}, "1011"},
		{"one below Room", middle, []int{0, 0, 0}, "1111"},
		{"Room 0", netWith(3, [4]int{0, 2, 0, 1}, [4]int{2, 1, 1, 1}), []int{0, 0}, "100"},
		{"only backward", back, []int{1, 1, 1, 2, 0, 0}, "101110"},
		{"not backward without flow", back, []int{1, 0, 0, 1, 0, 0}, "111111"},
		{"not backward over empty arcs", netWith(4, [4]int{0, 3, 1, 1}, [4]int{2, 3, 1, 1}), []int{0, 0}, "1001"},
		{"backward twice", far, []int{1, 1, 1, 1, 2}, "10111"},
		{"backward twice, with no room before", netWith(5, [4]int{0, 4, 1, 1}, [4]int{3, 4, 1, 1}, [4]int{2, 3, 1, 1}, [4]int{0, 2, 1, 1}, [4]int{4, 1, 2, 1}), []int{1, 1, 1, 1, 2}, "10000"},
		{"backward into node 0", netWith(3, [4]int{1, 2, 1, 1}, [4]int{2, 0, 1, 1}), []int{1, 1}, "111"},
		{"into node 0 without flow", netWith(3, [4]int{1, 2, 1, 1}, [4]int{2, 0, 1, 1}), []int{0, 0}, "100"},
		{"both directions, both full", turning, []int{1, 1}, "101"},
		{"both directions, both empty", turning, []int{0, 0}, "101"},
		{"parallel arcs, both empty", twin, []int{0, 0, 0}, "111"},
		{"parallel arcs, the first full", twin, []int{1, 0, 1}, "111"},
		{"parallel arcs, the second full", twin, []int{0, 2, 2}, "111"},
		{"parallel arcs, both full", twin, []int{1, 2, 3}, "100"},
		{"parallel arcs, one of Room 0", netWith(2, [4]int{0, 1, 0, 1}, [4]int{0, 1, 1, 1}), []int{0, 0}, "11"},
		{"past node 1, but not back to node 3", past, []int{0, 0, 0}, "1110"},
		{"node 1 not reached, nor what is past it", past, []int{1, 0, 0}, "1000"},
		{"a circulation that is not reached", netWith(4, [4]int{2, 3, 2, 1}, [4]int{3, 2, 2, 1}), []int{1, 1}, "1000"},
		{"against a circulation", netWith(4, [4]int{0, 3, 1, 1}, [4]int{2, 3, 1, 1}, [4]int{3, 2, 1, 1}), []int{0, 1, 1}, "1011"},
		{"arcs listed from the end", netWith(5, [4]int{4, 1, 1, 1}, [4]int{3, 4, 1, 1}, [4]int{2, 3, 1, 1}, [4]int{0, 2, 1, 1}), []int{0, 0, 0, 0}, "11111"},
	}
	for _, c := range cases {
		checkFlow(t, c.n, c.flow)
		got := ""
		for _, reached := range impl.ReachedBy(c.n, c.flow) {
			if reached {
				got += "1"
			} else {
				got += "0"
			}
		}
		if got != c.want {
			t.Errorf("%s: ReachedBy(%+v, %v) = %s, want %s", c.name, c.n, c.flow, got, c.want)
		}
	}
}

func TestFlowMoreTables(t *testing.T) {
	direct := netWith(2, [4]int{0, 1, 5, 1}, [4]int{1, 0, 5, 1})
	row := rowNet(4, 3, 1)
	narrow := netWith(3, [4]int{0, 2, 5, 1}, [4]int{2, 1, 3, 1})
	cases := []struct {
		name string
		n    impl.Net
		a    []int
		b    []int
		want []int
	}{
		{"zero flows", direct, []int{0, 0}, []int{0, 0}, []int{0, 0}},
		{"a zero flow", direct, []int{5, 2}, []int{0, 0}, []int{5, 2}},
		{"below Room", direct, []int{3, 0}, []int{1, 1}, []int{4, 1}},
		{"at Room", direct, []int{3, 1}, []int{2, 4}, []int{5, 5}},
		{"one above Room on the first arc", direct, []int{3, 1}, []int{3, 4}, nil},
		{"one above Room on the last arc", direct, []int{3, 1}, []int{2, 5}, nil},
		{"at Room of the narrow arc", narrow, []int{2, 2}, []int{1, 1}, []int{3, 3}},
		{"one above Room of the narrow arc", narrow, []int{2, 2}, []int{2, 2}, nil},
		{"one above Room on all arcs", row, []int{2, 2, 2}, []int{2, 2, 2}, nil},
		{"in opposite directions", direct, []int{5, 0}, []int{0, 5}, []int{5, 5}},
		{"a not a flow, with the sum one", row, []int{1, 0, 1}, []int{1, 1, 1}, nil},
		{"a not a flow, although b and the sum are", row, []int{-1, -1, -1}, []int{2, 2, 2}, nil},
		{"b not a flow, although a and the sum are", row, []int{2, 2, 2}, []int{-1, -1, -1}, nil},
		{"neither a flow, although the sum is", row, []int{1, 0, 1}, []int{0, 1, 0}, nil},
		{"a above Room, although b and the sum are flows", row, []int{4, 4, 4}, []int{0, 0, 0}, nil},
		{"b above Room, and the sum at Room", row, []int{-1, -1, -1}, []int{4, 4, 4}, nil},
		{"a too short", row, []int{1, 1}, []int{1, 1, 1}, nil},
		{"b too short", row, []int{1, 1, 1}, []int{1, 1}, nil},
		{"a too long", row, []int{1, 1, 1, 0}, []int{1, 1, 1}, nil},
		{"b too long", row, []int{1, 1, 1}, []int{1, 1, 1, 0}, nil},
		{"both too short", row, []int{1, 1}, []int{1, 1}, nil},
		{"both too long", row, []int{1, 1, 1, 0}, []int{1, 1, 1, 0}, nil},
		{"a without numbers", row, nil, []int{1, 1, 1}, nil},
		{"b without numbers", row, []int{1, 1, 1}, nil, nil},
		{"no arcs", netWith(3), nil, []int{}, nil},
		{"no arcs, one number", netWith(3), nil, []int{0}, nil},
		{"far below and far above", direct, []int{math.MinInt, 0}, []int{math.MinInt, 0}, nil},
		{"far above", direct, []int{math.MaxInt, 0}, []int{math.MaxInt, 0}, nil},
	}
	for _, c := range cases {
		if got := impl.FlowMore(c.n, c.a, c.b); !slices.Equal(got, c.want) {
			t.Errorf("%s: FlowMore(%+v, %v, %v) = %v, want %v", c.name, c.n, c.a, c.b, got, c.want)
		}
		if checkFlow(t, c.n, c.a) && checkFlow(t, c.n, c.b) {
			checkSum(t, c.n, c.a, c.b)
		}
	}
}

// Promise 6, on all pairs of flows of all small networks.
func TestFlowsOfSmallNets(t *testing.T) {
	flows, sums := 0, 0
	for _, n := range smallNets(0, 1, 2) {
		if !impl.NetOk(n) {
			t.Fatalf("NetOk(%+v) is false", n)
		}
		moreFlows, moreSums := checkAllFlows(t, n)
		flows += moreFlows
		sums += moreSums
	}
	if flows < 10000 || sums < 10000 {
		t.Errorf("only %d flows and %d sums", flows, sums)
	}
}

// Promise 6, on flows whose sizes are known from the routes that they take.
func TestFlowsOfMixedNets(t *testing.T) {
	s := numbers(66)
	sums := 0
	for _, r := range mixedNets() {
		if !impl.NetOk(r.net) {
			t.Fatalf("NetOk(%+v) is false", r.net)
		}
		lists := unitsOf(&s, r.routes)
		for _, units := range lists {
			flow := r.flow(units)
			if !checkFlow(t, r.net, flow) {
				t.Fatalf("%v is not a flow of %+v", flow, r.net)
			}
			if got := impl.FlowSize(r.net, flow); got != r.size(units) {
				t.Errorf("FlowSize(%+v, %v) = %d, want %d", r.net, flow, got, r.size(units))
			}
			for _, other := range lists {
				if checkSum(t, r.net, flow, r.flow(other)) {
					sums++
				}
			}
		}
	}
	if sums < 1000 {
		t.Errorf("only %d sums", sums)
	}
}

// notFlows has lists with one fault each: their length, a number out of its range, or a node that is not balanced.
func notFlows(n impl.Net, flow []int) [][]int {
	lists := [][]int{append(slices.Clone(flow), 0), append(slices.Clone(flow), 1)}
	if len(flow) > 0 {
		lists = append(lists, nil, flow[1:], flow[:len(flow)-1])
	}
	for i, a := range n.Arcs {
		others := []int{-1, a.Room + 1, math.MinInt, math.MaxInt}
		if a.From > 1 || a.To > 1 {
			others = append(others, flow[i]+1, flow[i]-1)
		}
		for _, other := range others {
			list := slices.Clone(flow)
			list[i] = other
			lists = append(lists, list)
		}
	}
	return lists
}

func TestListsThatAreNotFlows(t *testing.T) {
	s := numbers(666)
	nets := mixedNets()
	for i := 0; i < len(nets); i += 3 {
		for _, units := range unitsOf(&s, nets[i].routes) {
			for _, list := range notFlows(nets[i].net, nets[i].flow(units)) {
				checkNoFlow(t, nets[i].net, list)
			}
		}
	}
	for _, list := range notFlows(exampleNet(), []int{1, 0, 1, 0, 1}) {
		checkNoFlow(t, exampleNet(), list)
	}
}

func TestFlowsOfInvalidNets(t *testing.T) {
	for _, n := range invalidNets() {
		lists := [][]int{nil, {0}, sameFlow(n, 0), sameFlow(n, 1), sameFlow(n, -1), fullFlow(n)}
		for _, list := range lists {
			checkNoFlow(t, n, list)
		}
	}
}

func TestLargestNets(t *testing.T) {
	for i, n := range largestNets() {
		if !impl.NetOk(n) || n.Nodes != impl.MaxNetNodes || len(n.Arcs) != impl.MaxArcs {
			t.Fatalf("the network %d has %d nodes and %d arcs, and NetOk is %v", i, n.Nodes, len(n.Arcs), impl.NetOk(n))
		}
		for units := -1; units <= impl.MaxRoom+1; units++ {
			checkFlow(t, n, sameFlow(n, units))
		}
		for _, list := range [][]int{sameFlow(n, 0)[1:], append(sameFlow(n, 0), 0)} {
			checkNoFlow(t, n, list)
		}
		for _, place := range []int{0, 1, impl.MaxArcs / 2, impl.MaxArcs - 1} {
			for _, number := range []int{-1, 9, 11, impl.MaxRoom + 1} {
				list := sameFlow(n, 10)
				list[place] = number
				checkFlow(t, n, list)
			}
		}
		// Where all arcs leave a node that none enters, only the zero flow is a flow.
		if !plainFlowOk(n, sameFlow(n, 1)) {
			checkSum(t, n, sameFlow(n, 0), sameFlow(n, 0))
			continue
		}
		for _, a := range []int{0, 1, 10, impl.MaxRoom} {
			for _, b := range []int{0, 1, 10, impl.MaxRoom - 1, impl.MaxRoom} {
				if got := checkSum(t, n, sameFlow(n, a), sameFlow(n, b)); got != (a+b <= impl.MaxRoom) {
					t.Errorf("network %d: the sum of %d and %d is a flow: %v", i, a, b, got)
				}
			}
		}
	}
}

func countReached(reached []bool) int {
	count := 0
	for _, r := range reached {
		if r {
			count++
		}
	}
	return count
}

// The numbers of the largest networks, written out.
func TestLargestNumbers(t *testing.T) {
	n := filled(netWith(impl.MaxNetNodes), impl.Arc{From: 0, To: 1, Room: impl.MaxRoom, Cost: impl.MaxCost})
	if size, cost := impl.FlowSize(n, fullFlow(n)), impl.FlowCost(n, fullFlow(n)); size != 64000 || cost != 6400000 {
		t.Errorf("all arcs from 0 to 1: size %d and cost %d", size, cost)
	}
	m := turned(n)
	if size, cost := impl.FlowSize(m, fullFlow(m)), impl.FlowCost(m, fullFlow(m)); size != -64000 || cost != 6400000 {
		t.Errorf("all arcs from 1 to 0: size %d and cost %d", size, cost)
	}
	rows := largestNets()[0]
	if size, cost := impl.FlowSize(rows, fullFlow(rows)), impl.FlowCost(rows, fullFlow(rows)); size != (2+202)*20 || cost != 6400000 {
		t.Errorf("two rows and 202 arcs from 0 to 1: size %d and cost %d", size, cost)
	}
	backRows := largestNets()[1]
	cases := []struct {
		name string
		n    impl.Net
		flow []int
		want int
	}{
		{"empty rows", rows, sameFlow(rows, 0), impl.MaxNetNodes},
		{"half full rows", rows, sameFlow(rows, 10), impl.MaxNetNodes},
		{"full rows", rows, fullFlow(rows), 1},
		{"empty rows into node 0", backRows, sameFlow(backRows, 0), 1},
		{"full rows into node 0", backRows, fullFlow(backRows), impl.MaxNetNodes},
	}
	for _, c := range cases {
		if got := countReached(impl.ReachedBy(c.n, c.flow)); got != c.want {
			t.Errorf("%s: ReachedBy has %d nodes, want %d", c.name, got, c.want)
		}
	}
}

// spoilFlags turns all elements of a result and of the memory behind it.
func spoilFlags(result []bool) {
	result = result[:cap(result)]
	for i := range result {
		result[i] = !result[i]
	}
}

func TestNetsResultsAreNew(t *testing.T) {
	s := numbers(6666)
	for _, r := range append(mixedNets(), routedNet{net: exampleNet()}, routedNet{net: netWith(2)}) {
		for _, units := range unitsOf(&s, r.routes) {
			// Equal flows with memory behind them, in which a result must not be placed.
			a := append(make([]int, 0, len(r.net.Arcs)+50), r.flow(units)...)
			b := append(make([]int, 0, len(r.net.Arcs)+50), sameFlow(r.net, 0)...)
			first, second := impl.ReachedBy(r.net, a), impl.ReachedBy(r.net, a)
			spoilFlags(first)
			if !slices.Equal(second, plainReached(r.net, a)) || !slices.Equal(impl.ReachedBy(r.net, a), second) {
				t.Errorf("ReachedBy(%+v, %v) shares memory with an earlier result", r.net, a)
			}
			more, again := impl.FlowMore(r.net, a, b), impl.FlowMore(r.net, b, a)
			spoil(more)
			if !slices.Equal(again, r.flow(units)) || !slices.Equal(a, again) || !slices.Equal(b, sameFlow(r.net, 0)) {
				t.Errorf("FlowMore(%+v, %v, %v) shares memory with an earlier result or an argument", r.net, a, b)
			}
			spoil(again)
			if !slices.Equal(a, r.flow(units)) || !slices.Equal(b, sameFlow(r.net, 0)) || !slices.Equal(impl.FlowMore(r.net, a, b), a) {
				t.Errorf("FlowMore(%+v, %v, %v) shares memory with an earlier result or an argument", r.net, b, a)
			}
		}
	}
}

// withRoomBehind has the elements of list, and count times the given one in the memory behind them.
func withRoomBehind[E any](list []E, count int, behind E) []E {
	return append(slices.Clone(list), slices.Repeat([]E{behind}, count)...)
}

// checkKept checks that the functions leave a network, two lists, and the memory behind them as they are.
func checkKept(t *testing.T, n impl.Net, a []int, b []int) {
	t.Helper()
	arcs := withRoomBehind(n.Arcs, 20, impl.Arc{From: 9, To: 9, Room: 9, Cost: 9})
	first, second := withRoomBehind(a, 20, 99), withRoomBehind(b, 20, 99)
	keptArcs, keptFirst, keptSecond := slices.Clone(arcs), slices.Clone(first), slices.Clone(second)
	m := impl.Net{Nodes: n.Nodes, Arcs: arcs[:len(n.Arcs)]}
	impl.NetOk(m)
	for _, list := range [][]int{first[:len(a)], second[:len(b)]} {
		impl.FlowOk(m, list)
		impl.FlowSize(m, list)
		impl.FlowCost(m, list)
		impl.ReachedBy(m, list)
		impl.FlowMore(m, list, list)
	}
	impl.FlowMore(m, first[:len(a)], second[:len(b)])
	impl.FlowMore(m, second[:len(b)], first[:len(a)])
	if !slices.Equal(arcs, keptArcs) {
		t.Errorf("the arcs %+v or the memory behind them changed", n.Arcs)
	}
	if !slices.Equal(first, keptFirst) || !slices.Equal(second, keptSecond) {
		t.Errorf("a list of %v and %v or the memory behind it changed", a, b)
	}
}

func TestNetsKeepTheirArguments(t *testing.T) {
	s := numbers(66666)
	for _, r := range mixedNets() {
		lists := unitsOf(&s, r.routes)
		for i, units := range lists {
			checkKept(t, r.net, r.flow(units), r.flow(lists[(i+1)%len(lists)]))
		}
		checkKept(t, r.net, sameFlow(r.net, 1), append(sameFlow(r.net, 0), 0))
	}
	for _, n := range append(invalidNets(), largestNets()...) {
		checkKept(t, n, sameFlow(n, 0), fullFlow(n))
		checkKept(t, n, nil, sameFlow(n, -1))
	}
}
