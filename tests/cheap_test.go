package tests

import (
	"math"
	"slices"
	"testing"

	"loop.example/g00961/impl"
)

// netStep is a step of the residual network; change is what it does to the flow of its arc.
type netStep struct{ arc, from, to, length, change int }

// netStepsOf has all steps in the order of the arcs, for one arc the forward step before the backward step.
func netStepsOf(n impl.Net, flow []int) []netStep {
	var steps []netStep
	for i, a := range n.Arcs {
		if flow[i] < a.Room {
			steps = append(steps, netStep{i, a.From, a.To, 10000*a.Cost + 1, 1})
		}
		if flow[i] > 0 {
			steps = append(steps, netStep{i, a.To, a.From, 1 - 10000*a.Cost, -1})
		}
	}
	return steps
}

// leastLengths visits all steps, without a heap, until no length becomes less; math.MaxInt is the length where there is no path.
func leastLengths(nodes int, steps []netStep) []int {
	lengths := slices.Repeat([]int{math.MaxInt}, nodes)
	lengths[0] = 0
	for changed := true; changed; {
		changed = false
		for _, s := range steps {
			if lengths[s.from] != math.MaxInt && lengths[s.from]+s.length < lengths[s.to] {
				lengths[s.to], changed = lengths[s.from]+s.length, true
			}
		}
	}
	return lengths
}

// plainUnit adds one unit to the flow, on the path of the chapter, and tells whether there is a path.
func plainUnit(n impl.Net, flow []int) ([]int, bool) {
	steps := netStepsOf(n, flow)
	lengths := leastLengths(n.Nodes, steps)
	if lengths[1] == math.MaxInt {
		return nil, false
	}
	more := slices.Clone(flow)
	for node := 1; node != 0; {
		i := slices.IndexFunc(steps, func(s netStep) bool {
			return s.to == node && lengths[s.from] != math.MaxInt && lengths[s.from]+s.length == lengths[node]
		})
		more[steps[i].arc] += steps[i].change
		node = steps[i].from
	}
	return more, true
}

// plainCheapest has the flow of the chapter for each size up to MaxSize, as far as there is one.
func plainCheapest(n impl.Net) [][]int {
	flows := [][]int{sameFlow(n, 0)}
	for len(flows) <= impl.MaxSize {
		more, ok := plainUnit(n, flows[len(flows)-1])
		if !ok {
			break
		}
		flows = append(flows, more)
	}
	return flows
}

// checkNotCheap checks what the chapter states where there is no flow of this size.
func checkNotCheap(t *testing.T, n impl.Net, size int) {
	t.Helper()
	if flow, cost, ok := impl.Cheapest(n, size); len(flow) != 0 || cost != 0 || ok {
		t.Errorf("Cheapest(%+v, %d) = %v, %d and %v, want nil, 0 and false", n, size, flow, cost, ok)
	}
	if cost := impl.LeastCost(n, size); cost != -1 {
		t.Errorf("LeastCost(%+v, %d) = %d, want -1", n, size, cost)
	}
}

// checkCheapSize checks promise 8 for one size and returns the cost.
func checkCheapSize(t *testing.T, n impl.Net, size int, want []int) int {
	t.Helper()
	flow, cost, ok := impl.Cheapest(n, size)
	if !ok || !slices.Equal(flow, want) {
		t.Errorf("Cheapest(%+v, %d) = %v, %d and %v, want the flow %v", n, size, flow, cost, ok, want)
		return cost
	}
	if !impl.FlowOk(n, flow) || !plainFlowOk(n, flow) || impl.FlowSize(n, flow) != size || plainSize(n, flow) != size {
		t.Errorf("Cheapest(%+v, %d) = %v, which has size %d", n, size, flow, plainSize(n, flow))
	}
	if cost != plainCost(n, flow) || impl.FlowCost(n, flow) != cost || impl.LeastCost(n, size) != cost {
		t.Errorf("Cheapest(%+v, %d) = %v with %d, LeastCost is %d, want %d", n, size, flow, cost, impl.LeastCost(n, size), plainCost(n, flow))
	}
	return cost
}

// checkCheap checks promise 8 for a valid network, with the flows of the chapter's own steps, and returns the costs by size.
func checkCheap(t *testing.T, n impl.Net) []int {
	t.Helper()
	flows := plainCheapest(n)
	most, _ := impl.MostFlow(n)
	greatest := min(most, impl.MaxSize)
	if len(flows) != greatest+1 {
		t.Errorf("%+v has flows up to size %d, but MostFlow is %d", n, len(flows)-1, most)
	}
	var costs []int
	for size, want := range flows {
		costs = append(costs, checkCheapSize(t, n, size, want))
	}
	for size := 2; size < len(costs); size++ {
		if costs[size]-costs[size-1] < costs[size-1]-costs[size-2] {
			t.Errorf("%+v: the costs are %v, where unit %d costs less than the one before", n, costs, size)
		}
	}
	for size := greatest + 1; size <= impl.MaxSize+2; size++ {
		checkNotCheap(t, n, size)
	}
	for _, size := range []int{-1, -2, -impl.MaxSize, math.MinInt, math.MaxInt, 1 << 32, -1 << 32} {
		checkNotCheap(t, n, size)
	}
	return costs
}

// checkLeastCosts checks also that no flow of a small network has less cost than LeastCost of its size.
func checkLeastCosts(t *testing.T, n impl.Net) []int {
	t.Helper()
	costs := checkCheap(t, n)
	least := slices.Repeat([]int{math.MaxInt}, len(costs))
	for _, flow := range flowsOf(n) {
		size := plainSize(n, flow)
		if size >= len(costs) && size <= impl.MaxSize {
			t.Errorf("Cheapest(%+v, %d) finds none, but %v is a flow", n, size, flow)
		} else if size >= 0 && size < len(costs) {
			least[size] = min(least[size], plainCost(n, flow))
		}
	}
	if !slices.Equal(costs, least) {
		t.Errorf("%+v has the costs %v, want %v", n, costs, least)
	}
	return costs
}

// unitsIn reads one digit for each arc.
func unitsIn(digits string) []int {
	var flow []int
	for _, digit := range digits {
		flow = append(flow, int(digit-'0'))
	}
	return flow
}

// cheapCase is a network with the flows of size 1, 2 and so on, of which the last one is the greatest.
type cheapCase struct {
	name  string
	n     impl.Net
	flows []string
}

func checkCheapCases(t *testing.T, cases []cheapCase) {
	t.Helper()
	for _, c := range cases {
		costs := checkLeastCosts(t, c.n)
		if len(costs) != len(c.flows)+1 {
			t.Errorf("%s: %+v has the costs %v, want sizes up to %d", c.name, c.n, costs, len(c.flows))
		}
		for i, digits := range c.flows {
			if flow, _, ok := impl.Cheapest(c.n, i+1); !ok || !slices.Equal(flow, unitsIn(digits)) {
				t.Errorf("%s: Cheapest(%+v, %d) = %v and %v, want %s", c.name, c.n, i+1, flow, ok, digits)
			}
		}
	}
}

func TestCheapLimits(t *testing.T) {
	if impl.MaxSize != 16 {
		t.Errorf("MaxSize = %d", impl.MaxSize)
	}
}

func TestCheapExample(t *testing.T) {
	n := exampleNet()
	checkCheapCases(t, []cheapCase{{"the example", n, []string{"10101", "20111", "21112"}}})
	if costs := checkLeastCosts(t, n); !slices.Equal(costs, []int{0, 3, 8, 14}) {
		t.Errorf("the costs of the example are %v", costs)
	}
	for _, size := range []int{-1, 4, 5, impl.MaxSize, impl.MaxSize + 1} {
		checkNotCheap(t, n, size)
	}
	for _, m := range ordersOf(n) {
		if costs := checkCheap(t, m); !slices.Equal(costs, []int{0, 3, 8, 14}) {
			t.Errorf("%+v has the costs %v", m, costs)
		}
	}
}

func TestCheapestOfParallelArcs(t *testing.T) {
	checkCheapCases(t, []cheapCase{
		{"equal ones", netWith(2, [4]int{0, 1, 2, 5}, [4]int{0, 1, 1, 5}, [4]int{0, 1, 2, 5}), []string{"100", "200", "210", "211", "212"}},
		{"a cheaper one last", netWith(2, [4]int{0, 1, 1, 5}, [4]int{0, 1, 2, 3}), []string{"01", "02", "12"}},
		{"a cheaper one between equal ones", netWith(2, [4]int{0, 1, 1, 5}, [4]int{0, 1, 1, 3}, [4]int{0, 1, 1, 5}), []string{"010", "110", "111"}},
		{"of Cost 0", netWith(2, [4]int{0, 1, 1, 0}, [4]int{0, 1, 1, 0}), []string{"10", "11"}},
		{"of Cost 0 and MaxCost", netWith(2, [4]int{0, 1, 1, 100}, [4]int{0, 1, 1, 0}), []string{"01", "11"}},
		{"at node 0", netWith(3, [4]int{0, 2, 1, 1}, [4]int{0, 2, 1, 1}, [4]int{2, 1, 2, 1}), []string{"101", "112"}},
		{"at node 1", netWith(3, [4]int{2, 1, 1, 1}, [4]int{0, 2, 2, 1}, [4]int{2, 1, 1, 1}), []string{"110", "121"}},
		{"in the middle", netWith(4, [4]int{0, 2, 2, 1}, [4]int{2, 3, 1, 4}, [4]int{2, 3, 1, 4}, [4]int{3, 1, 2, 1}), []string{"1101", "2112"}},
		{"everywhere", netWith(3, [4]int{0, 2, 1, 1}, [4]int{2, 1, 1, 1}, [4]int{2, 1, 1, 1}, [4]int{0, 2, 1, 1}), []string{"1100", "1111"}},
		{"taken back in their order", netWith(4, [4]int{0, 2, 2, 0}, [4]int{2, 3, 1, 1}, [4]int{2, 3, 1, 1}, [4]int{3, 1, 2, 0}, [4]int{0, 3, 2, 9}, [4]int{2, 1, 2, 9}),
			[]string{"110100", "211200", "201211", "200222"}},
		{"the dearer one taken back first", netWith(4, [4]int{0, 2, 2, 0}, [4]int{2, 3, 1, 1}, [4]int{2, 3, 1, 2}, [4]int{3, 1, 2, 0}, [4]int{0, 3, 2, 9}, [4]int{2, 1, 2, 9}),
			[]string{"110100", "211200", "210211", "200222"}},
	})
}

// The path is determined backwards: the first arc into a node counts, not the first one out of it.
func TestCheapestOfEqualPaths(t *testing.T) {
	checkCheapCases(t, []cheapCase{
		{"out of node 0 in one order, into node 1 in the other", netWith(4, [4]int{0, 2, 1, 1}, [4]int{0, 3, 1, 1}, [4]int{3, 1, 1, 1}, [4]int{2, 1, 1, 1}), []string{"0110", "1111"}},
		{"the other way round", netWith(4, [4]int{0, 3, 1, 1}, [4]int{0, 2, 1, 1}, [4]int{2, 1, 1, 1}, [4]int{3, 1, 1, 1}), []string{"0110", "1111"}},
		{"the same order on both sides", netWith(4, [4]int{0, 3, 1, 1}, [4]int{0, 2, 1, 1}, [4]int{3, 1, 1, 1}, [4]int{2, 1, 1, 1}), []string{"1010", "1111"}},
		{"into node 1 before out of node 0", netWith(4, [4]int{2, 1, 1, 1}, [4]int{3, 1, 1, 1}, [4]int{0, 3, 1, 1}, [4]int{0, 2, 1, 1}), []string{"1001", "1111"}},
		{"two ways into a later node", netWith(5, [4]int{0, 2, 1, 1}, [4]int{0, 3, 1, 1}, [4]int{3, 4, 1, 1}, [4]int{2, 4, 1, 1}, [4]int{4, 1, 2, 1}), []string{"01101", "11112"}},
		{"three ways", netWith(5, [4]int{0, 4, 1, 1}, [4]int{0, 3, 1, 1}, [4]int{0, 2, 1, 1}, [4]int{3, 1, 1, 1}, [4]int{4, 1, 1, 1}, [4]int{2, 1, 1, 1}), []string{"010100", "110110", "111111"}},
		{"different costs with the same sum", netWith(4, [4]int{0, 2, 1, 3}, [4]int{0, 3, 1, 1}, [4]int{2, 1, 1, 1}, [4]int{3, 1, 1, 3}), []string{"1010", "1111"}},
		{"different costs with the same sum, in the other order", netWith(4, [4]int{0, 2, 1, 3}, [4]int{0, 3, 1, 1}, [4]int{3, 1, 1, 3}, [4]int{2, 1, 1, 1}), []string{"0110", "1111"}},
		{"of Cost 0", netWith(4, [4]int{0, 2, 1, 0}, [4]int{0, 3, 1, 0}, [4]int{3, 1, 1, 0}, [4]int{2, 1, 1, 0}), []string{"0110", "1111"}},
		{"the first one is dearer", netWith(4, [4]int{0, 2, 1, 1}, [4]int{2, 1, 1, 2}, [4]int{0, 3, 1, 1}, [4]int{3, 1, 1, 1}), []string{"0011", "1111"}},
	})
}

// Of paths of the same cost, the one with fewer arcs is the shortest.
func TestCheapestWithFewerArcs(t *testing.T) {
	checkCheapCases(t, []cheapCase{
		{"listed last", netWith(3, [4]int{0, 2, 1, 1}, [4]int{2, 1, 1, 1}, [4]int{0, 1, 1, 2}), []string{"001", "111"}},
		{"listed first, but dearer", netWith(3, [4]int{0, 1, 1, 3}, [4]int{0, 2, 1, 1}, [4]int{2, 1, 1, 1}), []string{"011", "111"}},
		{"listed last, and cheaper", netWith(3, [4]int{0, 2, 1, 1}, [4]int{2, 1, 1, 1}, [4]int{0, 1, 1, 1}), []string{"001", "111"}},
		{"in the middle", netWith(5, [4]int{0, 2, 2, 1}, [4]int{2, 3, 1, 1}, [4]int{3, 4, 1, 1}, [4]int{2, 4, 1, 2}, [4]int{4, 1, 2, 1}), []string{"10011", "21112"}},
		{"of Cost 0", netWith(3, [4]int{0, 2, 1, 0}, [4]int{2, 1, 1, 0}, [4]int{0, 1, 1, 0}), []string{"001", "111"}},
		{"of Cost 1, beside more arcs of Cost 0", netWith(4, [4]int{0, 1, 1, 1}, [4]int{0, 2, 1, 0}, [4]int{2, 3, 1, 0}, [4]int{3, 1, 1, 0}), []string{"0111", "1111"}},
		{"two arcs beside three with one of Cost 0", netWith(5, [4]int{0, 2, 1, 1}, [4]int{2, 3, 1, 0}, [4]int{3, 1, 1, 1}, [4]int{0, 4, 1, 1}, [4]int{4, 1, 1, 1}), []string{"00011", "11111"}},
		{"past a ring of Cost 0", netWith(4, [4]int{0, 2, 1, 0}, [4]int{2, 3, 1, 0}, [4]int{3, 2, 1, 0}, [4]int{2, 1, 1, 0}), []string{"1001"}},
	})
}

// A short way over a middle arc of the given cost, which is taken back for the second unit.
func middleNet(cost int, side int) impl.Net {
	return netWith(6, [4]int{0, 2, 1, 0}, [4]int{2, 3, 1, cost}, [4]int{3, 1, 1, 0}, [4]int{0, 4, 1, side}, [4]int{4, 3, 1, side}, [4]int{2, 5, 1, side}, [4]int{5, 1, 1, side})
}

func TestCheapestWithBackwardSteps(t *testing.T) {
	checkCheapCases(t, []cheapCase{
		{"an arc of Cost 0", netWith(4, [4]int{0, 2, 1, 0}, [4]int{0, 3, 1, 5}, [4]int{2, 3, 1, 0}, [4]int{2, 1, 1, 7}, [4]int{3, 1, 1, 0}), []string{"10101", "11011"}},
		{"an arc of MaxCost", middleNet(impl.MaxCost, 60), []string{"1110000", "1011111"}},
		{"an arc of Cost 0 between arcs of MaxCost", middleNet(0, impl.MaxCost), []string{"1110000", "1011111"}},
		{"only arcs of Cost 0", middleNet(0, 0), []string{"1110000", "1011111"}},
		{"two arcs in a row", netWith(5, [4]int{0, 2, 1, 0}, [4]int{2, 3, 1, 1}, [4]int{3, 4, 1, 1}, [4]int{4, 1, 1, 0}, [4]int{0, 4, 1, 8}, [4]int{2, 1, 1, 9}), []string{"111100", "100111"}},
		{"two arcs of Cost 0 in a row", netWith(5, [4]int{0, 2, 1, 1}, [4]int{2, 3, 1, 0}, [4]int{3, 4, 1, 0}, [4]int{4, 1, 1, 1}, [4]int{0, 4, 1, 100}, [4]int{2, 1, 1, 100}), []string{"111100", "100111"}},
		{"two arcs apart", netWith(6, [4]int{0, 2, 1, 0}, [4]int{2, 3, 1, 0}, [4]int{3, 4, 1, 0}, [4]int{4, 5, 1, 0}, [4]int{5, 1, 1, 0}, [4]int{0, 3, 1, 3}, [4]int{2, 5, 1, 3}, [4]int{4, 1, 1, 3}),
			[]string{"11111000", "10101111"}},
		{"one unit of two", netWith(4, [4]int{0, 2, 2, 0}, [4]int{2, 3, 2, 0}, [4]int{3, 1, 1, 0}, [4]int{2, 1, 2, 3}, [4]int{0, 3, 1, 1}), []string{"11100", "21110", "20121"}},
		{"one unit after the other", netWith(4, [4]int{0, 2, 2, 0}, [4]int{2, 3, 2, 1}, [4]int{3, 1, 2, 0}, [4]int{0, 3, 2, 5}, [4]int{2, 1, 2, 5}), []string{"11100", "22200", "21211", "20222"}},
		{"and again forward", netWith(5, [4]int{0, 2, 1, 0}, [4]int{2, 3, 1, 0}, [4]int{3, 1, 2, 0}, [4]int{0, 3, 1, 4}, [4]int{2, 1, 1, 9}, [4]int{0, 4, 1, 20}, [4]int{4, 2, 1, 20}),
			[]string{"1110000", "1121000", "1121111"}},
		{"not backward on empty arcs", netWith(4, [4]int{0, 3, 1, 0}, [4]int{2, 3, 1, 100}, [4]int{2, 1, 1, 0}, [4]int{3, 1, 1, 9}), []string{"1001"}},
		{"not forward on full arcs", netWith(4, [4]int{0, 2, 2, 0}, [4]int{2, 3, 1, 0}, [4]int{3, 1, 2, 0}, [4]int{2, 1, 1, 50}), []string{"1110", "2111"}},
	})
	for _, c := range []struct {
		n     impl.Net
		costs []int
	}{{middleNet(impl.MaxCost, 60), []int{0, 100, 240}}, {middleNet(0, impl.MaxCost), []int{0, 0, 400}}, {middleNet(0, 0), []int{0, 0, 0}}} {
		if costs := checkLeastCosts(t, c.n); !slices.Equal(costs, c.costs) {
			t.Errorf("%+v has the costs %v, want %v", c.n, costs, c.costs)
		}
	}
}

// The second unit reaches node 1 at the same cost with a backward step or only forward; each backward step counts as one, too.
func TestCheapestBackwardOrForward(t *testing.T) {
	checkCheapCases(t, []cheapCase{
		{"fewer arcs without the backward step", netWith(5, [4]int{0, 2, 1, 0}, [4]int{2, 3, 1, 0}, [4]int{3, 1, 1, 0}, [4]int{0, 3, 1, 5}, [4]int{2, 1, 1, 5}, [4]int{0, 4, 1, 5}, [4]int{4, 1, 1, 5}),
			[]string{"1110000", "1110011", "1011111"}},
		{"more arcs without it", netWith(7, [4]int{0, 4, 1, 5}, [4]int{4, 5, 1, 0}, [4]int{5, 6, 1, 0}, [4]int{6, 1, 1, 5}, [4]int{0, 2, 1, 0}, [4]int{2, 3, 1, 0}, [4]int{3, 1, 1, 0}, [4]int{0, 3, 1, 5}, [4]int{2, 1, 1, 5}),
			[]string{"000011100", "000010111", "111110111"}},
		{"as many, listed last", netWith(6, [4]int{0, 2, 1, 0}, [4]int{2, 3, 1, 0}, [4]int{3, 1, 1, 0}, [4]int{0, 3, 1, 5}, [4]int{2, 1, 1, 5}, [4]int{0, 4, 1, 5}, [4]int{4, 5, 1, 0}, [4]int{5, 1, 1, 5}),
			[]string{"11100000", "10111000", "10111111"}},
		{"as many, listed first", netWith(6, [4]int{5, 1, 1, 5}, [4]int{0, 2, 1, 0}, [4]int{2, 3, 1, 0}, [4]int{3, 1, 1, 0}, [4]int{0, 3, 1, 5}, [4]int{2, 1, 1, 5}, [4]int{0, 4, 1, 5}, [4]int{4, 5, 1, 0}),
			[]string{"01110000", "11110011", "11011111"}},
		{"into one node, the backward step first", netWith(5, [4]int{0, 2, 1, 0}, [4]int{2, 3, 1, 2}, [4]int{3, 1, 1, 0}, [4]int{0, 3, 1, 5}, [4]int{2, 1, 1, 10}, [4]int{0, 4, 1, 1}, [4]int{4, 2, 1, 2}),
			[]string{"1110000", "1011100"}},
		{"into one node, the forward step first", netWith(5, [4]int{0, 2, 1, 0}, [4]int{0, 4, 1, 1}, [4]int{4, 2, 1, 2}, [4]int{2, 3, 1, 2}, [4]int{3, 1, 1, 0}, [4]int{0, 3, 1, 5}, [4]int{2, 1, 1, 10}),
			[]string{"1001100", "1111101"}},
	})
}

func TestCheapestInBothDirections(t *testing.T) {
	checkCheapCases(t, []cheapCase{
		{"one of them", netWith(4, [4]int{0, 2, 1, 0}, [4]int{3, 2, 1, 0}, [4]int{2, 3, 1, 0}, [4]int{3, 1, 1, 0}), []string{"1011"}},
		{"the other one, of MaxCost", netWith(4, [4]int{0, 3, 1, 0}, [4]int{3, 2, 1, 100}, [4]int{2, 3, 1, 0}, [4]int{2, 1, 1, 0}), []string{"1101"}},
		{"one of them is taken back", netWith(4, [4]int{0, 2, 1, 0}, [4]int{2, 3, 1, 0}, [4]int{3, 2, 1, 0}, [4]int{3, 1, 1, 0}, [4]int{0, 3, 1, 5}, [4]int{2, 1, 1, 5}), []string{"110100", "100111"}},
		{"both of them are used", netWith(4, [4]int{0, 2, 1, 0}, [4]int{3, 2, 1, 0}, [4]int{2, 3, 1, 0}, [4]int{3, 1, 1, 0}, [4]int{0, 3, 1, 5}, [4]int{2, 1, 1, 5}), []string{"101100", "111111"}},
		{"taking back is cheaper", netWith(4, [4]int{0, 2, 1, 0}, [4]int{3, 2, 1, 0}, [4]int{2, 3, 1, 1}, [4]int{3, 1, 1, 0}, [4]int{0, 3, 1, 5}, [4]int{2, 1, 1, 5}), []string{"101100", "100111"}},
		{"between the nodes 0 and 1", netWith(2, [4]int{1, 0, 5, 0}, [4]int{0, 1, 2, 7}, [4]int{1, 0, 5, 100}), []string{"010", "020"}},
		{"at both ends", netWith(3, [4]int{2, 0, 2, 0}, [4]int{0, 2, 2, 1}, [4]int{1, 2, 2, 0}, [4]int{2, 1, 2, 1}), []string{"0101", "0202"}},
	})
}

// No path leads back into node 0 or on from node 1, although these arcs cost nothing.
func TestCheapestAtTheEnds(t *testing.T) {
	cases := []cheapCase{
		{"back from node 2, and out of node 1 to it", netWith(3, [4]int{0, 2, 2, 1}, [4]int{2, 0, 2, 0}, [4]int{2, 1, 2, 1}, [4]int{1, 2, 2, 0}), []string{"1010", "2020"}},
		{"into node 0 on the way", netWith(4, [4]int{0, 2, 1, 1}, [4]int{2, 3, 1, 1}, [4]int{3, 0, 1, 0}, [4]int{0, 3, 1, 9}, [4]int{3, 1, 2, 1}), []string{"11001", "11012"}},
		{"through node 1 and back into it", netWith(4, [4]int{0, 1, 2, 5}, [4]int{1, 3, 9, 0}, [4]int{3, 2, 9, 0}, [4]int{2, 1, 9, 0}), []string{"1000", "2000"}},
		{"a ring through both", netWith(4, [4]int{1, 2, 1, 0}, [4]int{2, 0, 1, 0}, [4]int{0, 3, 1, 1}, [4]int{3, 1, 1, 1}), []string{"0011"}},
		{"only into node 0 and out of node 1", netWith(3, [4]int{2, 0, 3, 0}, [4]int{1, 2, 3, 0}), nil},
	}
	checkCheapCases(t, cases)
	for _, c := range cases {
		for size := range len(c.flows) + 1 {
			flow, _, _ := impl.Cheapest(c.n, size)
			for i, a := range c.n.Arcs {
				if (a.To == 0 || a.From == 1) && flow[i] != 0 {
					t.Errorf("%s: Cheapest(%+v, %d) = %v uses the arc %d", c.name, c.n, size, flow, i)
				}
			}
		}
	}
}

func TestCheapestWithoutFlow(t *testing.T) {
	checkCheapCases(t, []cheapCase{
		{"no arcs, two nodes", netWith(2), nil},
		{"no arcs, an empty list", impl.Net{Nodes: 2, Arcs: []impl.Arc{}}, nil},
		{"no arcs, five nodes", netWith(5), nil},
		{"no arc out of node 0", netWith(4, [4]int{2, 3, 5, 1}, [4]int{3, 1, 5, 1}), nil},
		{"no arc into node 1", netWith(4, [4]int{0, 2, 5, 1}, [4]int{2, 3, 5, 1}), nil},
		{"a gap before node 1", netWith(4, [4]int{0, 2, 5, 1}, [4]int{3, 1, 5, 1}), nil},
		{"an arc in the wrong direction", netWith(4, [4]int{0, 2, 5, 1}, [4]int{3, 2, 5, 1}, [4]int{3, 1, 5, 1}), nil},
		{"from node 1 to node 0", netWith(2, [4]int{1, 0, 5, 1}), nil},
		{"Room 0", netWith(2, [4]int{0, 1, 0, 1}, [4]int{0, 1, 0, 0}), nil},
		{"Room 0 in the middle", netWith(4, [4]int{0, 2, 5, 1}, [4]int{2, 3, 0, 1}, [4]int{3, 1, 5, 1}), nil},
		{"Room 0 beside a dearer arc", netWith(2, [4]int{0, 1, 0, 0}, [4]int{0, 1, 1, 9}), []string{"01"}},
		{"Room 0 beside a longer way", netWith(4, [4]int{0, 2, 1, 1}, [4]int{2, 1, 0, 0}, [4]int{2, 3, 1, 1}, [4]int{3, 1, 1, 1}), []string{"1011"}},
		{"Room 0 against the way", netWith(4, [4]int{0, 2, 1, 1}, [4]int{3, 2, 0, 9}, [4]int{2, 3, 1, 1}, [4]int{3, 1, 1, 1}), []string{"1011"}},
		{"nodes that are not reached", netWith(6, [4]int{4, 1, 1, 0}, [4]int{5, 4, 1, 0}, [4]int{0, 2, 1, 1}, [4]int{2, 1, 1, 1}, [4]int{3, 2, 1, 0}), []string{"00110"}},
		{"a node that is not reached any more", netWith(4, [4]int{0, 2, 1, 1}, [4]int{2, 1, 2, 1}, [4]int{2, 3, 1, 0}, [4]int{3, 1, 1, 9}), []string{"1100"}},
	})
	for _, n := range []impl.Net{netWith(2), netWith(impl.MaxNetNodes), rowNet(5, 0, 1), turned(rowNet(5, 3, 1)), exampleNet()} {
		if flow, cost, ok := impl.Cheapest(n, 0); !ok || cost != 0 || !slices.Equal(flow, sameFlow(n, 0)) || impl.LeastCost(n, 0) != 0 {
			t.Errorf("Cheapest(%+v, 0) = %v, %d and %v", n, flow, cost, ok)
		}
	}
}

// Sizes around MaxSize and around the greatest size of a flow.
func TestCheapestSizes(t *testing.T) {
	for room := range impl.MaxRoom + 1 {
		parallel := netWith(2, [4]int{0, 1, room, 7}, [4]int{0, 1, room, 9})
		nets := []impl.Net{netWith(2, [4]int{0, 1, room, 7}), rowNet(5, room, 7), parallel}
		for i, n := range nets {
			most := room
			if i == 2 {
				most = 2 * room
			}
			costs := checkCheap(t, n)
			if len(costs) != min(most, 16)+1 {
				t.Errorf("%+v has the costs %v, want sizes up to %d", n, costs, most)
			}
		}
	}
	for _, c := range []struct{ room, size, cost int }{
		{15, 15, 105}, {15, 16, -1}, {16, 16, 112}, {16, 17, -1}, {17, 16, 112}, {17, 17, -1}, {20, 16, 112}, {20, 17, -1}, {20, 20, -1}, {0, 0, 0}, {0, 1, -1}, {20, 0, 0}, {20, -1, -1},
	} {
		if cost := impl.LeastCost(netWith(2, [4]int{0, 1, c.room, 7}), c.size); cost != c.cost {
			t.Errorf("LeastCost of Room %d and size %d is %d, want %d", c.room, c.size, cost, c.cost)
		}
	}
}

// recosted has the same arcs with the given costs.
func recosted(n impl.Net, costOf func(i int, a impl.Arc) int) impl.Net {
	m := impl.Net{Nodes: n.Nodes, Arcs: slices.Clone(n.Arcs)}
	for i, a := range n.Arcs {
		m.Arcs[i].Cost = costOf(i, a)
	}
	return m
}

// costsBelow brings the costs to the range 0 to k-1, so that many paths have the same cost.
func costsBelow(n impl.Net, k int) impl.Net {
	return recosted(n, func(i int, a impl.Arc) int { return (a.Cost + i) % k })
}

// evenCosts has the same cost for each arc.
func evenCosts(n impl.Net, cost int) impl.Net {
	return recosted(n, func(int, impl.Arc) int { return cost })
}

// Promise 8, with all flows of all small networks.
func TestCheapOfSmallNets(t *testing.T) {
	for _, n := range smallNets(0, 1, 2) {
		checkLeastCosts(t, n)
	}
	for i, n := range slices.Concat(smallNets(1, 2), netsOfFour()) {
		checkLeastCosts(t, costsBelow(n, 1+i%3))
		checkCheap(t, evenCosts(n, i%2*impl.MaxCost))
	}
	for i, n := range netsOfFour() {
		checkCheap(t, costsBelow(inReverse(n), 1+i%4))
	}
}

// Each order of the arcs, of which each one can lead to other flows of the same costs.
func TestCheapOfAllOrders(t *testing.T) {
	diamond := netWith(4, [4]int{0, 2, 1, 0}, [4]int{0, 3, 1, 1}, [4]int{2, 3, 1, 0}, [4]int{3, 2, 1, 0}, [4]int{2, 1, 1, 1}, [4]int{3, 1, 1, 0})
	twins := netWith(3, [4]int{0, 2, 1, 1}, [4]int{0, 2, 2, 1}, [4]int{2, 1, 1, 1}, [4]int{2, 1, 2, 1}, [4]int{0, 1, 1, 2})
	ways := netWith(5, [4]int{0, 2, 1, 1}, [4]int{0, 3, 1, 1}, [4]int{2, 4, 1, 1}, [4]int{3, 4, 1, 1}, [4]int{4, 1, 2, 1}, [4]int{2, 1, 1, 2})
	back := netWith(5, [4]int{0, 2, 1, 0}, [4]int{2, 3, 1, 2}, [4]int{3, 1, 1, 0}, [4]int{0, 3, 1, 5}, [4]int{2, 1, 1, 10}, [4]int{0, 4, 1, 1}, [4]int{4, 2, 1, 2})
	for _, n := range []impl.Net{diamond, twins, ways, back, middleNet(0, 0), middleNet(2, 1)} {
		want := checkLeastCosts(t, n)
		for _, m := range ordersOf(n) {
			if costs := checkCheap(t, m); !slices.Equal(costs, want) {
				t.Errorf("%+v has the costs %v, want %v", m, costs, want)
			}
		}
	}
}

// Promise 8 and the choice among shortest paths in networks that are too large for a list of all flows.
func TestCheapOfMixedNets(t *testing.T) {
	var nets []impl.Net
	for _, r := range mixedNets() {
		nets = append(nets, r.net, inReverse(r.net))
	}
	s := numbers(8)
	for count := range 300 {
		nodes := 3 + count%10
		nets = append(nets, wildNet(&s, nodes, nodes+s.below(4*nodes), 1+s.below(5)))
	}
	greatest := 0
	for i, n := range nets {
		for _, m := range []impl.Net{n, costsBelow(n, 2+i%5), evenCosts(n, i%2)} {
			if costs := checkCheap(t, m); len(costs) > impl.MaxSize {
				greatest++
			}
		}
	}
	if greatest < 100 {
		t.Errorf("only %d networks have a flow of MaxSize", greatest)
	}
}

// In these networks with MaxNetNodes nodes, the number of the arcs must not outweigh one unit of cost.
func TestCheapOfLongRows(t *testing.T) {
	free := rowNet(impl.MaxNetNodes, 3, 0)
	arcs := len(free.Arcs)
	direct := slices.Insert(slices.Clone(free.Arcs), 0, impl.Arc{From: 0, To: 1, Room: 4, Cost: 1})
	n := impl.Net{Nodes: impl.MaxNetNodes, Arcs: direct}
	if costs := checkCheap(t, n); !slices.Equal(costs, []int{0, 0, 0, 0, 1, 2, 3, 4}) {
		t.Errorf("a free row beside an arc of cost 1 has the costs %v", costs)
	}
	dear := impl.Net{Nodes: impl.MaxNetNodes, Arcs: slices.Clone(direct)}
	dear.Arcs[700].Cost = 1
	checkCheap(t, dear)
	if flow, cost, ok := impl.Cheapest(dear, 4); !ok || cost != 4 || flow[0] != 4 || flow[1] != 0 || flow[arcs] != 0 {
		t.Errorf("a row of cost 1 is used before an arc of cost 1: cost %d and %v", cost, ok)
	}
	row := rowNet(impl.MaxNetNodes, impl.MaxRoom, impl.MaxCost)
	if cost := impl.LeastCost(row, impl.MaxSize); cost != 2398400 {
		t.Errorf("LeastCost of the longest row is %d", cost)
	}
	// A backward step over each of the arcs of a free row: into its last node, and out of its first one.
	back := impl.Net{Nodes: impl.MaxNetNodes, Arcs: append(rowNet(impl.MaxNetNodes, 1, 0).Arcs,
		impl.Arc{From: 0, To: impl.MaxNetNodes - 1, Room: 1, Cost: 100}, impl.Arc{From: 2, To: 1, Room: 1, Cost: 100})}
	for _, m := range []impl.Net{back, inReverse(back)} {
		if costs := checkCheap(t, m); !slices.Equal(costs, []int{0, 0, 200}) {
			t.Errorf("a free row that is taken back has the costs %v", costs)
		}
	}
}

// MaxNetNodes nodes and MaxArcs arcs.
func TestCheapOfLargestNets(t *testing.T) {
	s := numbers(88)
	nets := largestNets()
	for _, layers := range []int{2, 7, 40} {
		for _, most := range []int{1, 2} {
			n := wideNet(&s, layers, most)
			nets = append(nets, n, costsBelow(n, 3), evenCosts(n, 0))
		}
	}
	for range 3 {
		n := wildNet(&s, impl.MaxNetNodes, impl.MaxArcs, 2)
		nets = append(nets, n, costsBelow(n, 2))
	}
	full := 0
	for i, n := range nets {
		if n.Nodes != impl.MaxNetNodes || len(n.Arcs) != impl.MaxArcs || !impl.NetOk(n) {
			t.Fatalf("the network %d has %d nodes and %d arcs, and NetOk is %v", i, n.Nodes, len(n.Arcs), impl.NetOk(n))
		}
		if costs := checkCheap(t, n); len(costs) > impl.MaxSize {
			full++
		}
		if i < 2 {
			checkCheap(t, inReverse(n))
		}
	}
	if full < 10 {
		t.Errorf("only %d networks have a flow of MaxSize", full)
	}
}

func TestCheapOfInvalidNets(t *testing.T) {
	for _, n := range invalidNets() {
		for _, size := range []int{0, 1, 2, impl.MaxSize, impl.MaxSize + 1, -1, math.MinInt, math.MaxInt} {
			if flow, cost, ok := impl.Cheapest(n, size); len(flow) != 0 || cost != 0 || ok {
				t.Errorf("Cheapest of %d nodes and %d arcs and size %d = %v, %d and %v", n.Nodes, len(n.Arcs), size, flow, cost, ok)
			}
			if cost := impl.LeastCost(n, size); cost != -1 {
				t.Errorf("LeastCost of %d nodes and %d arcs and size %d = %d", n.Nodes, len(n.Arcs), size, cost)
			}
		}
	}
}

func TestCheapResultsAreNew(t *testing.T) {
	nets := []impl.Net{netWith(2), exampleNet(), rowNet(6, 3, 1), middleNet(0, 0), largestNets()[0]}
	for _, r := range mixedNets() {
		nets = append(nets, r.net)
	}
	for _, n := range nets {
		for size := range impl.MaxSize + 1 {
			first, cost, ok := impl.Cheapest(n, size)
			second, _, _ := impl.Cheapest(n, size)
			want := slices.Clone(first)
			spoil(first)
			if !slices.Equal(second, want) {
				t.Errorf("Cheapest(%+v, %d) shares memory with an earlier result", n, size)
			}
			spoil(second)
			if third, again, still := impl.Cheapest(n, size); !slices.Equal(third, want) || again != cost || still != ok {
				t.Errorf("Cheapest(%+v, %d) = %v, %d and %v, want %v, %d and %v", n, size, third, again, still, want, cost, ok)
			}
		}
	}
}

// No function changes a network or the memory behind its arcs.
func TestCheapKeepsItsArguments(t *testing.T) {
	nets := append(largestNets(), netWith(2), exampleNet(), middleNet(0, 0))
	for _, r := range mixedNets() {
		nets = append(nets, r.net)
	}
	for _, n := range append(nets, invalidNets()...) {
		arcs := withRoomBehind(n.Arcs, 20, impl.Arc{From: 9, To: 9, Room: 9, Cost: 9})
		kept := slices.Clone(arcs)
		m := impl.Net{Nodes: n.Nodes, Arcs: arcs[:len(n.Arcs)]}
		for _, size := range []int{-1, 0, 1, 2, 3, impl.MaxSize, impl.MaxSize + 1} {
			flow, _, _ := impl.Cheapest(m, size)
			spoil(flow)
			impl.LeastCost(m, size)
		}
		if !slices.Equal(arcs, kept) {
			t.Errorf("the arcs %+v or the memory behind them changed", n.Arcs)
		}
	}
}
