package tests

import (
	"math"
	"slices"
	"testing"

	"loop.example/g00961/impl"
)

// plainPrices has the least cost of all walks to each node that have fewer steps than there are nodes, and tells
// whether no walk with as many steps as there are nodes, which repeats a node, costs less.
func plainPrices(n impl.Net, flow []int) ([]int, bool) {
	steps := netStepsOf(n, flow)
	least, walks, longer := make([]int, n.Nodes), make([]int, n.Nodes), make([]int, n.Nodes)
	for range n.Nodes - 1 {
		oneStepMore(n, steps, walks, longer)
		walks, longer = longer, walks
		for node, cost := range walks {
			least[node] = min(least[node], cost)
		}
	}
	oneStepMore(n, steps, walks, longer)
	for node, cost := range longer {
		if cost < least[node] {
			return nil, false
		}
	}
	return least, true
}

// oneStepMore sets longer to the least costs of the walks with exactly one step more than those of walks.
func oneStepMore(n impl.Net, steps []netStep, walks []int, longer []int) {
	const none = math.MaxInt / 2 // no walk costs nearly as much
	for node := range longer {
		longer[node] = none
	}
	for _, s := range steps {
		if walks[s.from] < none {
			longer[s.to] = min(longer[s.to], walks[s.from]+s.change*n.Arcs[s.arc].Cost)
		}
	}
}

// plainPricesOk reads the conditions of the chapter one by one, for a flow of a valid network.
func plainPricesOk(n impl.Net, flow []int, prices []int) bool {
	if len(prices) != n.Nodes || len(prices) > 0 && (slices.Min(prices) < -1000000 || slices.Max(prices) > 1000000) {
		return false
	}
	for i, a := range n.Arcs {
		if flow[i] < a.Room && !(prices[a.From]+a.Cost >= prices[a.To]) {
			return false
		}
		if flow[i] > 0 && !(prices[a.To]-a.Cost >= prices[a.From]) {
			return false
		}
	}
	return true
}

// shifted has each number plus one constant.
func shifted(prices []int, by int) []int {
	var list []int
	for _, price := range prices {
		list = append(list, price+by)
	}
	return list
}

// checkPrices checks the functions for a flow of a valid network, and tells whether it has potentials.
func checkPrices(t *testing.T, n impl.Net, flow []int) bool {
	t.Helper()
	want, cheap := plainPrices(n, flow)
	prices, ok := impl.PricesOf(n, flow)
	if ok != cheap || impl.NoneCheaper(n, flow) != cheap || !slices.Equal(prices, want) {
		t.Errorf("PricesOf and NoneCheaper(%+v, %v) = %v, %v and %v, want %v and %v", n, flow, prices, ok, impl.NoneCheaper(n, flow), want, cheap)
	}
	if !cheap {
		for _, list := range [][]int{nil, make([]int, n.Nodes), make([]int, n.Nodes+1)} {
			checkPricesOk(t, n, flow, list, false)
		}
		return false
	}
	// The node with the greatest number is one at which a least walk begins.
	if slices.Max(want) != 0 {
		t.Errorf("PricesOf(%+v, %v) = %v", n, flow, want)
	}
	least := slices.Min(want)
	for _, by := range []int{0, 1, -1, 1000000, -1000000 - least} {
		checkPricesOk(t, n, flow, shifted(want, by), true)
	}
	for _, by := range []int{1000001, -1000001 - least, math.MaxInt, math.MinInt - least, 1 << 32, -1 << 32} {
		checkPricesOk(t, n, flow, shifted(want, by), false)
	}
	for _, list := range [][]int{nil, want[1:], want[:len(want)-1], append(slices.Clone(want), 0)} {
		checkPricesOk(t, n, flow, list, false)
	}
	return true
}

func checkPricesOk(t *testing.T, n impl.Net, flow []int, prices []int, want bool) {
	t.Helper()
	if got := impl.PricesOk(n, flow, prices); got != want {
		t.Errorf("PricesOk(%+v, %v, %v) is %v", n, flow, prices, got)
	}
}

// checkOtherPrices changes one number after the other, of at most 12 nodes.
func checkOtherPrices(t *testing.T, n impl.Net, flow []int) {
	t.Helper()
	prices, ok := impl.PricesOf(n, flow)
	if !ok {
		prices = make([]int, n.Nodes)
	}
	for node := 0; node < n.Nodes; node += 1 + n.Nodes/12 {
		for _, by := range []int{-100, -7, -2, -1, 1, 2, 7, 100} {
			other := slices.Clone(prices)
			other[node] += by
			checkPricesOk(t, n, flow, other, plainPricesOk(n, flow, other))
		}
	}
}

// checkNoPrices checks what the chapter states where FlowOk is false, with lists that hold whatever else is required.
func checkNoPrices(t *testing.T, n impl.Net, flow []int, prices ...[]int) {
	t.Helper()
	if got, ok := impl.PricesOf(n, flow); len(got) != 0 || ok {
		t.Errorf("PricesOf of %d nodes, %d arcs and %v = %v and %v, want nil and false", n.Nodes, len(n.Arcs), flow, got, ok)
	}
	if impl.NoneCheaper(n, flow) {
		t.Errorf("NoneCheaper of %d nodes, %d arcs and %v is true", n.Nodes, len(n.Arcs), flow)
	}
	lists := append(prices, nil, []int{0}, []int{0, 0})
	if n.Nodes >= 0 && n.Nodes <= impl.MaxNetNodes+1 {
		lists = append(lists, make([]int, n.Nodes))
	}
	for _, list := range lists {
		if impl.PricesOk(n, flow, list) {
			t.Errorf("PricesOk of %d nodes, %d arcs, %v and %v is true", n.Nodes, len(n.Arcs), flow, list)
		}
	}
}

// checkAllPrices checks promise 9 with all flows of a small network, and counts those with potentials and those without.
func checkAllPrices(t *testing.T, n impl.Net) (int, int) {
	t.Helper()
	checkCheapFlows(t, n)
	flows := flowsOf(n)
	least := map[int]int{} // by size
	for _, flow := range flows {
		size, cost := plainSize(n, flow), plainCost(n, flow)
		if other, ok := least[size]; !ok || cost < other {
			least[size] = cost
		}
	}
	with, without := 0, 0
	for _, flow := range flows {
		cheap := plainCost(n, flow) == least[plainSize(n, flow)]
		if checkPrices(t, n, flow) != cheap || impl.NoneCheaper(n, flow) != cheap {
			t.Errorf("NoneCheaper(%+v, %v) is %v, but the cost is %d, and the least one is %d", n, flow, !cheap, plainCost(n, flow), least[plainSize(n, flow)])
		}
		if cheap {
			with++
		} else {
			without++
		}
	}
	return with, without
}

// priceCase is a flow, with one digit for each arc, and its potentials; there are none without numbers.
type priceCase struct {
	name string
	n    impl.Net
	flow string
	want []int
}

func checkPriceCases(t *testing.T, cases []priceCase) {
	t.Helper()
	for _, c := range cases {
		flow := unitsIn(c.flow)
		checkPrices(t, c.n, flow)
		prices, ok := impl.PricesOf(c.n, flow)
		if !slices.Equal(prices, c.want) || ok != (c.want != nil) || impl.NoneCheaper(c.n, flow) != ok {
			t.Errorf("%s: PricesOf(%+v, %s) = %v and %v, want %v", c.name, c.n, c.flow, prices, ok, c.want)
		}
		checkOtherPrices(t, c.n, flow)
		checkAllPrices(t, c.n)
		checkCheapFlows(t, inReverse(c.n))
		// In another order of the arcs, the potentials are the same.
		slices.Reverse(flow)
		if again, still := impl.PricesOf(inReverse(c.n), flow); !slices.Equal(again, c.want) || still != ok {
			t.Errorf("%s, in reverse: PricesOf(%+v, %v) = %v and %v, want %v", c.name, inReverse(c.n), flow, again, still, c.want)
		}
	}
}

func TestPricesExample(t *testing.T) {
	n := exampleNet()
	checkPriceCases(t, []priceCase{
		{"size 0", n, "00000", []int{0, 0, 0, 0}},
		{"size 1, cost 3", n, "10101", []int{-3, 0, -2, -1}},
		{"size 1, cost 5", n, "10010", nil},
		{"size 1, cost 6", n, "01001", nil},
		{"size 2, cost 8", n, "20111", []int{-5, 0, -4, -1}},
		{"size 2, cost 9", n, "11102", nil},
		{"size 2, cost 11", n, "11011", nil},
		{"size 3, cost 14", n, "21112", []int{-6, 0, -4, -1}},
	})
	if with, without := checkAllPrices(t, n); with != 4 || without != 4 {
		t.Errorf("the example has %d flows with potentials and %d without", with, without)
	}
}

func TestPricesOfSingleSteps(t *testing.T) {
	checkPriceCases(t, []priceCase{
		{"no arcs, two nodes", netWith(2), "", []int{0, 0}},
		{"no arcs, an empty list", impl.Net{Nodes: 2, Arcs: []impl.Arc{}}, "", []int{0, 0}},
		{"no arcs, five nodes", netWith(5), "", []int{0, 0, 0, 0, 0}},
		{"an empty arc", netWith(2, [4]int{0, 1, 2, 7}), "0", []int{0, 0}},
		{"an arc neither empty nor full", netWith(2, [4]int{0, 1, 2, 7}), "1", []int{-7, 0}},
		{"a full arc", netWith(2, [4]int{0, 1, 2, 7}), "2", []int{-7, 0}},
		{"an arc of Room 0", netWith(2, [4]int{0, 1, 0, 7}), "0", []int{0, 0}},
		{"an arc from node 1 to node 0", netWith(2, [4]int{1, 0, 1, 7}), "1", []int{0, -7}},
		{"an arc of Cost 0", netWith(2, [4]int{0, 1, 1, 0}), "1", []int{0, 0}},
		{"an arc of MaxCost", netWith(2, [4]int{0, 1, 1, 100}), "1", []int{-100, 0}},
		{"a node without arcs", netWith(3, [4]int{0, 1, 1, 7}), "1", []int{-7, 0, 0}},
		{"a node without arcs, before others", netWith(4, [4]int{0, 3, 1, 7}, [4]int{3, 1, 1, 2}), "11", []int{-9, 0, 0, -2}},
		{"nodes to which no step leads", netWith(5, [4]int{0, 1, 1, 7}, [4]int{2, 3, 1, 5}, [4]int{4, 0, 1, 5}), "100", []int{-7, 0, 0, 0, 0}},
		{"node 0, to which no step leads", netWith(3, [4]int{0, 2, 1, 7}, [4]int{2, 1, 1, 7}), "00", []int{0, 0, 0}},
		{"a node out of which no step leads", netWith(3, [4]int{0, 1, 1, 7}, [4]int{0, 2, 1, 3}), "10", []int{-7, 0, -4}},
		{"parallel arcs, all full", netWith(2, [4]int{0, 1, 1, 10}, [4]int{0, 1, 1, 30}, [4]int{0, 1, 1, 20}), "111", []int{-30, 0}},
		{"parallel arcs, the dearest one last", netWith(2, [4]int{0, 1, 1, 10}, [4]int{0, 1, 1, 20}, [4]int{0, 1, 1, 30}), "111", []int{-30, 0}},
		{"parallel arcs, the dearest one first", netWith(2, [4]int{0, 1, 1, 30}, [4]int{0, 1, 1, 20}, [4]int{0, 1, 1, 10}), "111", []int{-30, 0}},
		{"parallel arcs, the cheapest one used", netWith(2, [4]int{0, 1, 1, 30}, [4]int{0, 1, 1, 20}, [4]int{0, 1, 1, 10}), "001", []int{-10, 0}},
		{"both directions, one used", netWith(2, [4]int{0, 1, 2, 5}, [4]int{1, 0, 2, 3}), "10", []int{-5, 0}},
		{"both directions, the other one used", netWith(2, [4]int{0, 1, 2, 5}, [4]int{1, 0, 2, 3}), "01", []int{0, -3}},
	})
}

func TestPricesOfLongerWalks(t *testing.T) {
	checkPriceCases(t, []priceCase{
		{"two steps of MaxCost", netWith(3, [4]int{0, 2, 1, 100}, [4]int{2, 1, 1, 100}), "11", []int{-200, 0, -100}},
		{"MaxCost after Cost 0", netWith(3, [4]int{0, 2, 1, 100}, [4]int{2, 1, 1, 0}), "11", []int{-100, 0, 0}},
		{"Cost 0 after MaxCost", netWith(3, [4]int{0, 2, 1, 0}, [4]int{2, 1, 1, 100}), "11", []int{-100, 0, -100}},
		{"only Cost 0", netWith(3, [4]int{0, 2, 1, 0}, [4]int{2, 1, 1, 0}), "11", []int{0, 0, 0}},
		{"from node 0 to node 1", netWith(4, [4]int{1, 2, 1, 3}, [4]int{2, 3, 1, 4}, [4]int{3, 0, 1, 5}), "111", []int{0, -12, -9, -5}},
		{"more steps cost less", netWith(4, [4]int{0, 2, 1, 10}, [4]int{2, 3, 1, 10}, [4]int{3, 1, 1, 10}, [4]int{0, 1, 1, 25}), "1111", []int{-30, 0, -20, -10}},
		{"as many as fewer", netWith(4, [4]int{0, 2, 1, 10}, [4]int{2, 3, 1, 10}, [4]int{3, 1, 1, 10}, [4]int{0, 1, 1, 30}), "1111", []int{-30, 0, -20, -10}},
		{"fewer steps cost less", netWith(4, [4]int{0, 2, 1, 10}, [4]int{2, 3, 1, 10}, [4]int{3, 1, 1, 10}, [4]int{0, 1, 1, 35}), "1111", []int{-35, 0, -20, -10}},
		{"backward, then forward at a lower cost", netWith(3, [4]int{0, 1, 1, 50}, [4]int{0, 2, 1, 20}), "10", []int{-50, 0, -30}},
		{"backward, then forward at the same cost", netWith(3, [4]int{0, 1, 1, 50}, [4]int{0, 2, 1, 50}), "10", []int{-50, 0, 0}},
		{"backward, then forward at a greater cost", netWith(3, [4]int{0, 1, 1, 50}, [4]int{0, 2, 1, 51}), "10", []int{-50, 0, 0}},
		{"backward, forward, and backward", netWith(4, [4]int{0, 1, 1, 60}, [4]int{0, 2, 2, 10}, [4]int{3, 2, 1, 3}, [4]int{2, 1, 2, 20}, [4]int{0, 3, 1, 5}), "11121", []int{-60, 0, -50, -53}},
		{"not forward over an arc of Room 0", netWith(3, [4]int{0, 1, 1, 50}, [4]int{0, 2, 0, 20}), "10", []int{-50, 0, 0}},
		{"not backward over an arc of Room 0", netWith(3, [4]int{0, 1, 1, 50}, [4]int{2, 0, 0, 20}), "10", []int{-50, 0, 0}},
		{"not backward over an empty arc", netWith(3, [4]int{0, 1, 1, 50}, [4]int{2, 0, 1, 20}), "10", []int{-50, 0, 0}},
		{"not forward over a full arc", netWith(3, [4]int{0, 1, 1, 60}, [4]int{0, 2, 1, 10}, [4]int{2, 1, 1, 20}), "111", []int{-60, 0, -20}},
		{"forward where there is room", netWith(3, [4]int{0, 1, 1, 60}, [4]int{0, 2, 2, 10}, [4]int{2, 1, 1, 20}), "111", []int{-60, 0, -50}},
		{"a fork", netWith(5, [4]int{0, 2, 2, 1}, [4]int{2, 3, 1, 8}, [4]int{2, 4, 1, 3}, [4]int{3, 1, 1, 2}, [4]int{4, 1, 1, 9}), "21111", []int{-13, 0, -12, -2, -9}},
		{"a part apart", netWith(5, [4]int{2, 3, 1, 8}, [4]int{0, 1, 1, 9}, [4]int{3, 4, 1, 8}), "010", []int{-9, 0, 0, 0, 0}},
	})
}

func TestPricesWithCyclesOfNegativeCost(t *testing.T) {
	ring := [][4]int{{2, 3, 1, 0}, {3, 4, 1, 0}, {4, 2, 1, 1}}
	checkPriceCases(t, []priceCase{
		{"parallel arcs, the dearer one", netWith(2, [4]int{0, 1, 1, 5}, [4]int{0, 1, 1, 6}), "01", nil},
		{"parallel arcs, the dearer one first", netWith(2, [4]int{0, 1, 1, 100}, [4]int{0, 1, 1, 99}), "10", nil},
		{"parallel arcs of Cost 0 and MaxCost", netWith(2, [4]int{0, 1, 1, 0}, [4]int{0, 1, 1, 100}), "01", nil},
		{"parallel arcs, one unit on each", netWith(2, [4]int{0, 1, 2, 5}, [4]int{0, 1, 2, 6}), "11", nil},
		{"parallel arcs, the cheaper one not full", netWith(2, [4]int{0, 1, 2, 5}, [4]int{0, 1, 2, 6}), "12", nil},
		{"parallel arcs from node 1 to node 0", netWith(2, [4]int{1, 0, 1, 5}, [4]int{1, 0, 1, 6}), "01", nil},
		{"parallel arcs in the middle", netWith(4, [4]int{0, 2, 1, 0}, [4]int{2, 3, 1, 4}, [4]int{2, 3, 1, 3}, [4]int{3, 1, 1, 0}), "1101", nil},
		{"the dearer way", netWith(3, [4]int{0, 1, 1, 2}, [4]int{0, 2, 1, 2}, [4]int{2, 1, 1, 1}), "011", nil},
		{"the dearer way of few arcs", netWith(4, [4]int{0, 1, 1, 4}, [4]int{0, 2, 1, 1}, [4]int{2, 3, 1, 1}, [4]int{3, 1, 1, 1}), "1000", nil},
		{"the dearer of two ways", netWith(4, [4]int{0, 2, 1, 3}, [4]int{2, 1, 1, 4}, [4]int{0, 3, 1, 5}, [4]int{3, 1, 1, 3}), "0011", nil},
		{"an arc of MaxCost and two others that cost 98", middleNet(100, 49), "1110000", nil},
		{"an arc with a cost out of node 0, and one back", netWith(3, [4]int{0, 2, 1, 1}, [4]int{2, 0, 1, 0}), "11", nil},
		{"an arc out of node 0, and one with a cost back", netWith(3, [4]int{0, 2, 1, 0}, [4]int{2, 0, 1, 1}), "11", nil},
		{"an arc out of node 1, and one back", netWith(3, [4]int{1, 2, 1, 1}, [4]int{2, 1, 1, 0}), "11", nil},
		{"from node 0 to node 1 and back", netWith(2, [4]int{0, 1, 1, 1}, [4]int{1, 0, 1, 0}), "11", nil},
		{"from node 0 to node 1 and back, with more of one", netWith(2, [4]int{0, 1, 2, 1}, [4]int{1, 0, 1, 0}), "21", nil},
		{"through both over other nodes", netWith(4, [4]int{0, 2, 1, 0}, [4]int{2, 1, 1, 0}, [4]int{1, 3, 1, 0}, [4]int{3, 0, 1, 1}), "1111", nil},
		{"a circulation of two nodes", netWith(4, [4]int{2, 3, 1, 1}, [4]int{3, 2, 1, 0}), "11", nil},
		{"a circulation of two nodes that is not full", netWith(4, [4]int{2, 3, 2, 1}, [4]int{3, 2, 2, 0}), "11", nil},
		{"a circulation of three nodes", netWith(5, ring...), "111", nil},
		{"a circulation beside a cheapest flow", netWith(5, append(ring, [4]int{0, 1, 1, 5})...), "1111", nil},
		{"a circulation to which node 0 leads", netWith(5, append(ring, [4]int{0, 3, 1, 5})...), "1110", nil},
		{"a circulation that leads to node 1", netWith(5, append(ring, [4]int{3, 1, 1, 5})...), "1110", nil},
		{"two ways in a part apart", netWith(5, [4]int{2, 3, 1, 0}, [4]int{3, 2, 1, 0}, [4]int{3, 4, 1, 1}, [4]int{4, 2, 1, 0}), "1011", nil},
		{"one unit of two back into node 0", netWith(3, [4]int{0, 2, 2, 0}, [4]int{2, 0, 1, 1}, [4]int{2, 1, 1, 0}), "211", nil},
		{"forward once and backward twice", netWith(4, [4]int{0, 2, 1, 0}, [4]int{2, 3, 1, 9}, [4]int{3, 1, 1, 0}, [4]int{2, 1, 1, 8}), "1110", nil},
		{"two cycles of negative cost", netWith(4, [4]int{0, 2, 1, 0}, [4]int{2, 3, 1, 9}, [4]int{3, 1, 2, 0}, [4]int{0, 3, 1, 4}, [4]int{2, 1, 1, 3}, [4]int{3, 0, 1, 0}), "111000", nil},
		{"a cycle of cost 0 beside one of negative cost", netWith(4, [4]int{2, 3, 1, 0}, [4]int{3, 2, 1, 0}, [4]int{0, 1, 1, 5}, [4]int{0, 1, 1, 6}), "1101", nil},
	})
}

// Cycles of cost 0 are allowed, and those of positive cost are, too.
func TestPricesWithOtherCycles(t *testing.T) {
	checkPriceCases(t, []priceCase{
		{"parallel arcs of equal cost", netWith(2, [4]int{0, 1, 1, 5}, [4]int{0, 1, 1, 5}), "01", []int{-5, 0}},
		{"parallel arcs of equal cost, one unit on each", netWith(2, [4]int{0, 1, 2, 5}, [4]int{0, 1, 2, 5}), "11", []int{-5, 0}},
		{"parallel arcs, the cheaper one", netWith(2, [4]int{0, 1, 1, 5}, [4]int{0, 1, 1, 6}), "10", []int{-5, 0}},
		{"parallel arcs, the cheaper one full", netWith(2, [4]int{0, 1, 1, 5}, [4]int{0, 1, 2, 6}), "11", []int{-6, 0}},
		{"parallel arcs, the cheaper one of Room 0", netWith(2, [4]int{0, 1, 0, 5}, [4]int{0, 1, 1, 6}), "01", []int{-6, 0}},
		{"two ways of equal cost, the first", netWith(4, [4]int{0, 2, 1, 3}, [4]int{2, 1, 1, 4}, [4]int{0, 3, 1, 5}, [4]int{3, 1, 1, 2}), "1100", []int{-7, 0, -4, -2}},
		{"two ways of equal cost, the second", netWith(4, [4]int{0, 2, 1, 3}, [4]int{2, 1, 1, 4}, [4]int{0, 3, 1, 5}, [4]int{3, 1, 1, 2}), "0011", []int{-7, 0, -4, -2}},
		{"two ways of equal cost, both", netWith(4, [4]int{0, 2, 1, 3}, [4]int{2, 1, 1, 4}, [4]int{0, 3, 1, 5}, [4]int{3, 1, 1, 2}), "1111", []int{-7, 0, -4, -2}},
		{"the cheaper way is full", netWith(3, [4]int{0, 1, 1, 2}, [4]int{0, 2, 1, 2}, [4]int{2, 1, 1, 1}), "111", []int{-3, 0, -1}},
		{"the cheaper way is closed", netWith(3, [4]int{0, 1, 0, 2}, [4]int{0, 2, 1, 2}, [4]int{2, 1, 1, 1}), "011", []int{-3, 0, -1}},
		{"a circulation of Cost 0", netWith(4, [4]int{2, 3, 1, 0}, [4]int{3, 2, 1, 0}), "11", []int{0, 0, 0, 0}},
		{"a circulation of Cost 0 behind node 0", netWith(4, [4]int{2, 3, 1, 0}, [4]int{3, 2, 1, 0}, [4]int{0, 1, 1, 9}, [4]int{0, 2, 1, 4}), "1110", []int{-9, 0, -5, -5}},
		{"no units on a ring with costs", netWith(4, [4]int{2, 3, 1, 1}, [4]int{3, 2, 1, 1}), "00", []int{0, 0, 0, 0}},
		{"from node 0 to node 1 and back at Cost 0", netWith(2, [4]int{0, 1, 1, 0}, [4]int{1, 0, 1, 0}), "11", []int{0, 0}},
		{"an arc taken back and a way of the same cost", netWith(3, [4]int{0, 1, 1, 3}, [4]int{0, 2, 1, 2}, [4]int{2, 1, 1, 1}), "011", []int{-3, 0, -1}},
		{"an arc of MaxCost that two others match", middleNet(100, 50), "1110000", []int{-100, 0, -100, 0, -50, -50}},
		{"a short way that only one unit can take", middleNet(1, 60), "1011111", []int{-239, 0, -120, -119, -179, -60}},
		{"forward and backward at Cost 0", netWith(4, [4]int{0, 2, 2, 0}, [4]int{2, 3, 2, 0}, [4]int{3, 1, 2, 0}, [4]int{3, 2, 2, 0}), "1110", []int{0, 0, 0, 0}},
	})
}

// innerOrders has the nodes 2 to nodes-1 in each order.
func innerOrders(nodes int) [][]int {
	orders := [][]int{nil}
	for node := 2; node < nodes; node++ {
		var longer [][]int
		for _, order := range orders {
			for place := range len(order) + 1 {
				longer = append(longer, slices.Insert(slices.Clone(order), place, node))
			}
		}
		orders = longer
	}
	return orders
}

// rowOver leads from node 0 over the given nodes to node 1.
func rowOver(inner []int, room int, cost int) impl.Net {
	n := impl.Net{Nodes: len(inner) + 2}
	from := 0
	for _, to := range append(slices.Clone(inner), 1) {
		n.Arcs = append(n.Arcs, impl.Arc{From: from, To: to, Room: room, Cost: cost})
		from = to
	}
	return n
}

// pricesOfRow are the potentials of a flow on rowOver, whose walks go back from node 1.
func pricesOfRow(inner []int, cost int) []int {
	prices := make([]int, len(inner)+2)
	prices[0] = -cost * (len(inner) + 1)
	for i, node := range inner {
		prices[node] = -cost * (len(inner) - i)
	}
	return prices
}

// checkRow checks a flow on a row, whose least walk has all nodes, and a way beside the row that costs as much, one more, or one less.
func checkRow(t *testing.T, inner []int, cost int) {
	t.Helper()
	want := pricesOfRow(inner, cost)
	for _, room := range []int{1, 2} {
		n := rowOver(inner, room, cost)
		if prices, ok := impl.PricesOf(n, sameFlow(n, 1)); !ok || !slices.Equal(prices, want) {
			t.Errorf("PricesOf(%+v, 1 on each) = %v and %v, want %v", n, prices, ok, want)
		}
		checkPrices(t, n, sameFlow(n, 1))
		checkPrices(t, inReverse(n), sameFlow(n, 1))
		back := turned(n)
		slices.Reverse(back.Arcs)
		checkPrices(t, back, sameFlow(back, 1))
		for _, m := range []impl.Net{n, inReverse(n), back} {
			checkCheapFlows(t, m)
		}
		for _, by := range []int{-1, 0, 1} {
			beside := impl.Net{Nodes: n.Nodes, Arcs: append(slices.Clone(n.Arcs), impl.Arc{From: 0, To: 1, Room: 1, Cost: len(n.Arcs)*cost + by})}
			if !impl.NetOk(beside) {
				continue // it would cost less than 0 or more than MaxCost
			}
			checkCheapFlows(t, beside)
			if checkPrices(t, beside, append(sameFlow(n, 1), 0)) != (by >= 0) {
				t.Errorf("%+v beside the row of cost %d has potentials: %v", beside.Arcs[len(n.Arcs)], len(n.Arcs)*cost, by < 0)
			}
		}
	}
}

// Least walks of as many steps as there are nodes less one, over the nodes in each order.
func TestPricesOfRows(t *testing.T) {
	for nodes := 2; nodes <= 7; nodes++ {
		for _, inner := range innerOrders(nodes) {
			checkRow(t, inner, 3)
		}
		for _, cost := range []int{0, 1, impl.MaxCost} {
			checkRow(t, innerOrders(nodes)[0], cost)
		}
	}
}

// Only one condition of PricesOk at a time does not hold.
func TestPricesOkConditions(t *testing.T) {
	empty, half, full := netWith(2, [4]int{0, 1, 2, 7}), netWith(2, [4]int{0, 1, 2, 7}), netWith(2, [4]int{0, 1, 2, 7})
	for _, c := range []struct {
		name   string
		n      impl.Net
		flow   []int
		prices []int
		want   bool
	}{
		{"forward, with equality", empty, []int{0}, []int{0, 7}, true},
		{"forward, one less", empty, []int{0}, []int{0, 8}, false},
		{"forward, one less below 0", empty, []int{0}, []int{-8, 0}, false},
		{"forward, more than required", empty, []int{0}, []int{0, -7}, true},
		{"an empty arc, no condition backward", empty, []int{0}, []int{1000000, -1000000}, true},
		{"an empty arc, with equality backward", empty, []int{0}, []int{-6, 0}, true},
		{"backward, with equality", full, []int{2}, []int{0, 7}, true},
		{"backward, one less", full, []int{2}, []int{0, 6}, false},
		{"backward, one less below 0", full, []int{2}, []int{-6, 0}, false},
		{"backward, more than required", full, []int{2}, []int{0, 8}, true},
		{"a full arc, no condition forward", full, []int{2}, []int{-1000000, 1000000}, true},
		{"both, with equality", half, []int{1}, []int{-7, 0}, true},
		{"both, one less forward", half, []int{1}, []int{-8, 0}, false},
		{"both, one less backward", half, []int{1}, []int{-6, 0}, false},
		{"Cost 0 forward, with equality", netWith(2, [4]int{0, 1, 1, 0}), []int{0}, []int{5, 5}, true},
		{"Cost 0 forward, one less", netWith(2, [4]int{0, 1, 1, 0}), []int{0}, []int{5, 6}, false},
		{"Cost 0 backward, with equality", netWith(2, [4]int{0, 1, 1, 0}), []int{1}, []int{5, 5}, true},
		{"Cost 0 backward, one less", netWith(2, [4]int{0, 1, 1, 0}), []int{1}, []int{6, 5}, false},
		{"MaxCost forward, with equality", netWith(2, [4]int{0, 1, 1, 100}), []int{0}, []int{-50, 50}, true},
		{"MaxCost forward, one less", netWith(2, [4]int{0, 1, 1, 100}), []int{0}, []int{-50, 51}, false},
		{"MaxCost backward, with equality", netWith(2, [4]int{0, 1, 1, 100}), []int{1}, []int{-50, 50}, true},
		{"MaxCost backward, one less", netWith(2, [4]int{0, 1, 1, 100}), []int{1}, []int{-49, 50}, false},
		{"from node 1, one less forward", netWith(2, [4]int{1, 0, 1, 7}), []int{0}, []int{8, 0}, false},
		{"from node 1, one less backward", netWith(2, [4]int{1, 0, 1, 7}), []int{1}, []int{0, -6}, false},
		{"Room 0, no condition forward", netWith(2, [4]int{0, 1, 0, 7}), []int{0}, []int{-1000000, 1000000}, true},
		{"Room 0, no condition backward", netWith(2, [4]int{0, 1, 0, 7}), []int{0}, []int{1000000, -1000000}, true},
		{"Room 0 beside an arc with a condition", netWith(2, [4]int{0, 1, 0, 7}, [4]int{0, 1, 1, 9}), []int{0, 0}, []int{0, 9}, true},
		{"Room 0 beside an arc with one less", netWith(2, [4]int{0, 1, 0, 7}, [4]int{0, 1, 1, 9}), []int{0, 0}, []int{0, 10}, false},
		{"the first of parallel arcs", netWith(2, [4]int{0, 1, 1, 7}, [4]int{0, 1, 1, 9}), []int{0, 0}, []int{0, 8}, false},
		{"the last of parallel arcs", netWith(2, [4]int{0, 1, 1, 9}, [4]int{0, 1, 1, 7}), []int{0, 0}, []int{0, 8}, false},
		{"one of parallel arcs full, the dearer one empty", netWith(2, [4]int{0, 1, 1, 7}, [4]int{0, 1, 1, 9}), []int{1, 0}, []int{-8, 0}, true},
		{"one of parallel arcs full, the cheaper one empty", netWith(2, [4]int{0, 1, 1, 7}, [4]int{0, 1, 1, 9}), []int{0, 1}, []int{-8, 0}, false},
		{"an arc between other nodes, with equality", netWith(4, [4]int{2, 3, 1, 7}), []int{0}, []int{9, -9, -7, 0}, true},
		{"an arc between other nodes, one less", netWith(4, [4]int{2, 3, 1, 7}), []int{0}, []int{9, -9, -8, 0}, false},
		{"a node without arcs", netWith(3, [4]int{0, 1, 2, 7}), []int{1}, []int{-7, 0, 123456}, true},
		{"zeros, and an arc without flow", empty, []int{0}, []int{0, 0}, true},
		{"zeros, and an arc with flow", half, []int{1}, []int{0, 0}, false},
		{"zeros, and an arc of Cost 0 with flow", netWith(2, [4]int{0, 1, 2, 0}), []int{1}, []int{0, 0}, true},
	} {
		if got := impl.PricesOk(c.n, c.flow, c.prices); got != c.want || plainPricesOk(c.n, c.flow, c.prices) != c.want {
			t.Errorf("%s: PricesOk(%+v, %v, %v) is %v", c.name, c.n, c.flow, c.prices, got)
		}
	}
}

func TestPricesOkRange(t *testing.T) {
	bare, full := netWith(3), netWith(3, [4]int{0, 1, 1, 7})
	outside := []int{1000001, -1000001, 1000002, 2000000, math.MaxInt, math.MinInt, math.MaxInt - 100, math.MinInt + 100, 1 << 32, -1 << 32}
	for node := range 3 {
		for _, price := range []int{1000000, -1000000, 999999, -999999} {
			prices := make([]int, 3)
			prices[node] = price
			checkPricesOk(t, bare, nil, prices, true)
		}
		for _, price := range outside {
			prices := make([]int, 3)
			prices[node] = price
			checkPricesOk(t, bare, nil, prices, false)
		}
	}
	// Without the range, these would hold the condition of the full arc or, by wraparound, of the empty one.
	for _, price := range outside {
		checkPricesOk(t, full, []int{1}, []int{price - 7, price, 0}, false)
		checkPricesOk(t, full, []int{0}, []int{price, price + 7, 0}, false)
	}
	checkPricesOk(t, full, []int{1}, []int{-1000001, 0, 0}, false)
	checkPricesOk(t, full, []int{1}, []int{0, 1000001, 0}, false)
	checkPricesOk(t, full, []int{1}, []int{-1000000, 1000000, 0}, true)
	checkPricesOk(t, full, []int{1}, []int{999993, 1000000, -1000000}, true)
	checkPricesOk(t, full, []int{1}, []int{999994, 1000001, 0}, false)
	checkPricesOk(t, full, []int{1}, []int{-1000000, -999993, 1000000}, true)
	checkPricesOk(t, full, []int{1}, []int{-1000001, -999994, 0}, false)
}

// Numbers of another count, where all conditions hold for those that there are.
func TestPricesOkLength(t *testing.T) {
	for nodes := 2; nodes <= 6; nodes++ {
		for _, n := range []impl.Net{netWith(nodes), rowNet(nodes, 2, 5), netWith(nodes, [4]int{0, 1, 2, 5})} {
			for length := range 9 {
				for _, price := range []int{0, 5, -5} {
					checkPricesOk(t, n, sameFlow(n, 0), slices.Repeat([]int{price}, length), length == nodes)
				}
			}
			checkPricesOk(t, n, sameFlow(n, 0), nil, false)
		}
	}
}

// In each case, FlowOk is false for one reason, and the prices hold whatever else PricesOk requires.
func TestPricesOkFlow(t *testing.T) {
	one, row := netWith(2, [4]int{0, 1, 2, 7}), rowNet(3, 1, 7)
	for _, c := range []struct {
		name   string
		n      impl.Net
		flow   []int
		prices []int
	}{
		{"below 0", one, []int{-1}, []int{0, 0}},
		{"above Room", one, []int{3}, []int{-7, 0}},
		{"far above Room", one, []int{math.MaxInt}, []int{-7, 0}},
		{"far below 0", one, []int{math.MinInt}, []int{0, 0}},
		{"one number too many", one, []int{0, 0}, []int{0, 0}},
		{"one number too few", one, nil, []int{0, 0}},
		{"one number too few, in a row", row, []int{0}, []int{0, 0, 0}},
		{"no arcs, one number", netWith(2), []int{0}, []int{0, 0}},
		{"more into a node than out of it", row, []int{1, 0}, []int{-7, 0, 0}},
		{"less into a node than out of it", row, []int{0, 1}, []int{0, 0, -7}},
		{"a part that begins at node 2", netWith(4, [4]int{2, 3, 1, 7}), []int{1}, []int{0, 0, -7, 0}},
		{"one node", impl.Net{Nodes: 1}, nil, []int{0}},
		{"no nodes", impl.Net{}, nil, nil},
		{"an arc with equal ends", netWith(2, [4]int{1, 1, 1, 7}), []int{0}, []int{0, 0}},
		{"an arc to no node", netWith(2, [4]int{0, 2, 1, 7}), []int{0}, []int{0, 0}},
		{"an arc from no node", netWith(2, [4]int{-1, 1, 1, 7}), []int{0}, []int{0, 0}},
		{"Room below 0", netWith(2, [4]int{0, 1, -1, 7}), []int{0}, []int{0, 0}},
		{"Room above MaxRoom", netWith(2, [4]int{0, 1, 21, 7}), []int{0}, []int{0, 0}},
		{"Cost below 0", netWith(2, [4]int{0, 1, 1, -1}), []int{0}, []int{0, 0}},
		{"Cost above MaxCost", netWith(2, [4]int{0, 1, 1, 101}), []int{0}, []int{0, 0}},
		{"nodes above MaxNetNodes", netWith(1501), nil, make([]int, 1501)},
		{"arcs above MaxArcs", impl.Net{Nodes: 2, Arcs: slices.Repeat([]impl.Arc{{From: 0, To: 1, Room: 1}}, 3201)}, make([]int, 3201), []int{0, 0}},
	} {
		if impl.PricesOk(c.n, c.flow, c.prices) {
			t.Errorf("%s: PricesOk(%+v, %v, %v) is true", c.name, c.n, c.flow, c.prices)
		}
		checkNoPrices(t, c.n, c.flow, c.prices)
	}
}

// listsFrom has each list of numbers in a range.
func listsFrom(least int, most int, length int) [][]int {
	lists := [][]int{nil}
	for range length {
		var longer [][]int
		for _, list := range lists {
			for number := least; number <= most; number++ {
				longer = append(longer, append(slices.Clone(list), number))
			}
		}
		lists = longer
	}
	return lists
}

// Promise 9 with all potentials in a range in which there must be some, if there are any: with costs of at most 2 and three nodes, from -4 to 0.
func TestPricesOkOfAllLists(t *testing.T) {
	lists := listsFrom(-5, 1, 3)
	with, without := 0, 0
	for i, m := range slices.Concat(smallNets(1), smallNets(2)) {
		n := costsBelow(m, 1+i%3)
		for _, flow := range flowsOf(n) {
			found := false
			for _, prices := range lists {
				ok := impl.PricesOk(n, flow, prices)
				if ok != plainPricesOk(n, flow, prices) {
					t.Errorf("PricesOk(%+v, %v, %v) is %v", n, flow, prices, ok)
				}
				found = found || ok
			}
			if checkPrices(t, n, flow) != found || impl.NoneCheaper(n, flow) != found {
				t.Errorf("NoneCheaper(%+v, %v) is %v", n, flow, impl.NoneCheaper(n, flow))
			}
			if found {
				with++
			} else {
				without++
			}
		}
	}
	if with < 500 || without < 100 {
		t.Errorf("only %d flows with potentials and %d without", with, without)
	}
}

// Promise 9, with all flows of all small networks.
func TestPricesOfSmallNets(t *testing.T) {
	with, without := 0, 0
	count := func(n impl.Net) {
		t.Helper()
		moreWith, moreWithout := checkAllPrices(t, n)
		with, without = with+moreWith, without+moreWithout
	}
	for i, n := range slices.Concat(smallNets(0, 1, 2), netsOfFour()) {
		count(n)
		if i%3 == 0 {
			count(costsBelow(n, 2+i%4))
		}
		if i%50 == 0 {
			count(evenCosts(n, 0))
			count(evenCosts(n, impl.MaxCost))
		}
	}
	if with < 10000 || without < 10000 {
		t.Errorf("only %d flows with potentials and %d without", with, without)
	}
}

// exchanged has the nodes 0 and 1 exchanged, so that a flow has the opposite size.
func exchanged(n impl.Net) impl.Net {
	m := impl.Net{Nodes: n.Nodes, Arcs: slices.Clone(n.Arcs)}
	for i, a := range n.Arcs {
		if a.From < 2 {
			m.Arcs[i].From = 1 - a.From
		}
		if a.To < 2 {
			m.Arcs[i].To = 1 - a.To
		}
	}
	return m
}

// leastCostOf is the least cost of the flows of a size from -MaxSize to MaxSize.
func leastCostOf(n impl.Net, size int) int {
	if size < 0 {
		return impl.LeastCost(exchanged(n), -size)
	}
	return impl.LeastCost(n, size)
}

// checkByCost checks promise 9 with LeastCost, as far as MaxSize allows, and tells whether the flow has potentials.
func checkByCost(t *testing.T, n impl.Net, flow []int) bool {
	t.Helper()
	cheap := checkPrices(t, n, flow)
	size := plainSize(n, flow)
	if size < -impl.MaxSize || size > impl.MaxSize {
		return cheap
	}
	if least := leastCostOf(n, size); cheap != (plainCost(n, flow) == least) || impl.NoneCheaper(n, flow) != cheap {
		t.Errorf("NoneCheaper(%+v, %v) is %v, but its size %d costs %d, and the least cost is %d", n, flow, impl.NoneCheaper(n, flow), size, plainCost(n, flow), least)
	}
	return cheap
}

// Promise 9 with flows of routes and rings in networks that are too large for a list of all flows.
func TestPricesOfMixedNets(t *testing.T) {
	s := numbers(9)
	with, without, negative := 0, 0, 0
	for i, r := range mixedNets() {
		lists := unitsOf(&s, r.routes)
		for _, n := range []impl.Net{r.net, costsBelow(r.net, 2+i%5), evenCosts(r.net, i%3)} {
			checkCheapFlows(t, n)
			for _, units := range lists {
				flow := r.flow(units)
				if checkByCost(t, n, flow) {
					with++
				} else {
					without++
				}
				checkOtherPrices(t, n, flow)
				if size := plainSize(n, flow); size < 0 && size >= -impl.MaxSize {
					negative++
				}
			}
		}
	}
	if with < 500 || without < 500 || negative < 100 {
		t.Errorf("only %d flows with potentials, %d without, and %d of a size below 0", with, without, negative)
	}
}

// checkCheapFlow checks that the flow of Cheapest has potentials, if there is one.
func checkCheapFlow(t *testing.T, n impl.Net, size int) ([]int, bool) {
	t.Helper()
	flow, _, ok := impl.Cheapest(n, size)
	if ok && !checkPrices(t, n, flow) {
		t.Errorf("Cheapest(%+v, %d) = %v, which has no potentials", n, size, flow)
	}
	return flow, ok
}

// checkCheapFlows checks the flows of Cheapest, and returns those of sizes that are not 0.
func checkCheapFlows(t *testing.T, n impl.Net) [][]int {
	t.Helper()
	checkCheapFlow(t, n, 0)
	var flows [][]int
	for size := 1; size <= impl.MaxSize; size++ {
		flow, ok := checkCheapFlow(t, n, size)
		if !ok {
			break
		}
		flows = append(flows, flow)
	}
	return flows
}

// Flows that cost least, and the same ones with other costs of the arcs, with which most of them do not.
func TestPricesOfCheapestFlows(t *testing.T) {
	nets := []impl.Net{exampleNet(), middleNet(3, 1), middleNet(0, 0), rowNet(6, 20, 9)}
	for _, r := range mixedNets() {
		nets = append(nets, r.net, exchanged(r.net))
	}
	s := numbers(99)
	for count := range 200 {
		nodes := 3 + count%10
		nets = append(nets, wildNet(&s, nodes, nodes+s.below(4*nodes), 1+s.below(6)))
	}
	with, without := 0, 0
	for i, n := range nets {
		other := recosted(n, func(int, impl.Arc) int { return s.below(1 + i%7*10) })
		checkCheapFlows(t, other)
		for _, flow := range append(checkCheapFlows(t, n), plainMost(n)) {
			if checkByCost(t, other, flow) {
				with++
			} else {
				without++
			}
		}
	}
	if with < 200 || without < 200 {
		t.Errorf("only %d flows with potentials and %d without", with, without)
	}
}

// The zero flow has only steps that cost nothing or more.
func TestPricesOfZeroFlows(t *testing.T) {
	nets := append(largestNets(), exampleNet(), netWith(2), netWith(impl.MaxNetNodes))
	for _, r := range mixedNets() {
		nets = append(nets, r.net)
	}
	for _, n := range append(nets, smallNets(0, 1)...) {
		prices, ok := impl.PricesOf(n, sameFlow(n, 0))
		if !ok || !slices.Equal(prices, make([]int, n.Nodes)) || !impl.NoneCheaper(n, sameFlow(n, 0)) || !impl.PricesOk(n, sameFlow(n, 0), prices) {
			t.Errorf("PricesOf the zero flow of %+v = %v and %v", n, prices, ok)
		}
		checkPrices(t, n, sameFlow(n, 0))
	}
}

func TestPricesOfListsThatAreNotFlows(t *testing.T) {
	s := numbers(999)
	for i, r := range append(mixedNets(), routedNet{net: exampleNet()}, routedNet{net: netWith(3)}) {
		if i%3 > 0 {
			continue
		}
		for _, units := range unitsOf(&s, r.routes) {
			flow := r.flow(units)
			prices, _ := impl.PricesOf(r.net, flow)
			for _, list := range notFlows(r.net, flow) {
				checkNoPrices(t, r.net, list, prices)
			}
		}
	}
}

func TestPricesOfInvalidNets(t *testing.T) {
	for _, n := range invalidNets() {
		for _, list := range [][]int{nil, {0}, sameFlow(n, 0), sameFlow(n, 1), sameFlow(n, -1), fullFlow(n)} {
			checkNoPrices(t, n, list, make([]int, 4), make([]int, impl.MaxNetNodes))
		}
	}
}

// ringOf has the row over the given nodes with a total cost of 100, and an arc beside it; both are cheapest if it has the same cost.
func ringOf(inner []int, beside int) impl.Net {
	n := rowOver(inner, 3, 0)
	for i := range 50 {
		n.Arcs[7*i].Cost, n.Arcs[len(n.Arcs)-1-11*i].Cost = 1, 1
	}
	n.Arcs[0].Cost += 100 - plainCost(n, sameFlow(n, 1))
	return filled(impl.Net{Nodes: n.Nodes, Arcs: append(n.Arcs, impl.Arc{From: 0, To: 1, Room: 1, Cost: beside})}, impl.Arc{From: 1, To: 0})
}

// longestRows has all nodes from 2 to MaxNetNodes-1, up, down, from both ends, and mixed.
func longestRows() [][]int {
	var up, ends []int
	for node := 2; node < impl.MaxNetNodes; node++ {
		up = append(up, node)
	}
	down, mixed := slices.Clone(up), slices.Clone(up)
	slices.Reverse(down)
	for i := range len(up) / 2 {
		ends = append(ends, up[i], down[i])
	}
	s := numbers(90)
	for i := len(mixed) - 1; i > 0; i-- {
		j := s.below(i + 1)
		mixed[i], mixed[j] = mixed[j], mixed[i]
	}
	return [][]int{up, down, ends, mixed}
}

// Walks and cycles over all of MaxNetNodes nodes.
func TestPricesOfLongestRows(t *testing.T) {
	for _, inner := range longestRows() {
		row := rowOver(inner, impl.MaxRoom, impl.MaxCost)
		n := filled(row, impl.Arc{From: 0, To: 1})
		flow := append(sameFlow(row, 10), make([]int, impl.MaxArcs-len(row.Arcs))...)
		prices, ok := impl.PricesOf(n, flow)
		if !ok || !slices.Equal(prices, pricesOfRow(inner, 100)) || prices[0] != -149900 || len(n.Arcs) != 3200 || n.Nodes != 1500 {
			t.Errorf("the longest row has the potentials %v and %v", prices, ok)
		}
		checkPrices(t, n, flow)
		checkOtherPrices(t, n, flow)
		checkCheapFlow(t, n, impl.MaxSize)
		for _, beside := range []int{98, 99, 100} {
			ring := ringOf(inner, beside)
			checkCheapFlow(t, ring, 1)
			checkCheapFlow(t, ring, 4)
			used := make([]int, impl.MaxArcs)
			for arc := range len(inner) + 1 {
				used[arc] = 3
			}
			if checkPrices(t, ring, used) != (beside == 100) {
				t.Errorf("a cycle over all nodes of cost %d: potentials are not as expected", beside-100)
			}
			if used[len(inner)+1] = 1; !checkPrices(t, ring, used) {
				t.Errorf("a cycle over all nodes that is full on both sides has no potentials")
			}
		}
	}
}

// MaxNetNodes nodes and MaxArcs arcs.
func TestPricesOfLargestNets(t *testing.T) {
	with, without := 0, 0
	count := func(n impl.Net, flow []int) {
		t.Helper()
		if n.Nodes != impl.MaxNetNodes || len(n.Arcs) != impl.MaxArcs {
			t.Fatalf("the network has %d nodes and %d arcs", n.Nodes, len(n.Arcs))
		}
		if checkByCost(t, n, flow) {
			with++
		} else {
			without++
		}
		checkCheapFlow(t, n, impl.MaxSize)
	}
	for _, n := range largestNets() {
		checkCheapFlow(t, n, 1)
		for _, units := range []int{1, 10, impl.MaxRoom} {
			if flow := sameFlow(n, units); plainFlowOk(n, flow) {
				count(n, flow)
				count(costsBelow(n, 3), flow)
			} else {
				checkNoPrices(t, n, flow)
			}
		}
	}
	s := numbers(909)
	for _, layers := range []int{2, 7, 40} {
		n := wideNet(&s, layers, 2)
		for _, size := range []int{1, impl.MaxSize} {
			flow, _, ok := impl.Cheapest(n, size)
			if !ok {
				t.Fatalf("%d layers have no flow of size %d", layers, size)
			}
			count(n, flow)
			count(costsBelow(n, 9), flow)
			checkOtherPrices(t, n, flow)
		}
		count(n, plainMost(n))
		count(evenCosts(n, 1), plainMost(n))
	}
	if with < 15 || without < 15 {
		t.Errorf("only %d flows with potentials and %d without", with, without)
	}
}

func TestPricesResultsAreNew(t *testing.T) {
	s := numbers(9999)
	rows := rowNet(9, 2, 5)
	check := func(n impl.Net, flow []int) {
		t.Helper()
		list := append(make([]int, 0, len(flow)+n.Nodes+50), flow...)
		want, _ := plainPrices(n, flow)
		first, _ := impl.PricesOf(n, list)
		second, _ := impl.PricesOf(n, list)
		spoil(first)
		if !slices.Equal(second, want) || !slices.Equal(list, flow) {
			t.Errorf("PricesOf(%+v, %v) shares memory with an earlier result or its argument", n, flow)
		}
		spoil(second)
		if third, _ := impl.PricesOf(n, list); !slices.Equal(third, want) || !slices.Equal(list, flow) {
			t.Errorf("PricesOf(%+v, %v) = %v, want %v", n, flow, third, want)
		}
	}
	check(rows, sameFlow(rows, 1))
	check(netWith(4), nil)
	for _, r := range mixedNets() {
		for _, units := range unitsOf(&s, r.routes) {
			check(r.net, r.flow(units))
		}
	}
}

// checkPricesKept checks that the functions leave a network, a flow, prices, and the memory behind them as they are.
func checkPricesKept(t *testing.T, n impl.Net, flow []int, prices []int) {
	t.Helper()
	arcs := withRoomBehind(n.Arcs, 20, impl.Arc{From: 9, To: 9, Room: 9, Cost: 9})
	list, numbers := withRoomBehind(flow, 2*len(prices)+20, 99), withRoomBehind(prices, 20, 99)
	keptArcs, keptList, keptNumbers := slices.Clone(arcs), slices.Clone(list), slices.Clone(numbers)
	m := impl.Net{Nodes: n.Nodes, Arcs: arcs[:len(n.Arcs)]}
	result, _ := impl.PricesOf(m, list[:len(flow)])
	spoil(result)
	impl.PricesOk(m, list[:len(flow)], numbers[:len(prices)])
	impl.NoneCheaper(m, list[:len(flow)])
	if !slices.Equal(arcs, keptArcs) || !slices.Equal(list, keptList) || !slices.Equal(numbers, keptNumbers) {
		t.Errorf("the arcs %+v, the list %v, the prices %v or the memory behind them changed", n.Arcs, flow, prices)
	}
}

func TestPricesKeepTheirArguments(t *testing.T) {
	s := numbers(99999)
	for _, r := range mixedNets() {
		for _, units := range unitsOf(&s, r.routes) {
			flow := r.flow(units)
			prices, _ := impl.PricesOf(r.net, flow)
			checkPricesKept(t, r.net, flow, prices)
			checkPricesKept(t, r.net, flow, make([]int, r.net.Nodes))
		}
		checkPricesKept(t, r.net, sameFlow(r.net, 1), nil)
	}
	for _, n := range largestNets() {
		checkPricesKept(t, n, sameFlow(n, 0), make([]int, n.Nodes))
		checkPricesKept(t, n, fullFlow(n), make([]int, n.Nodes-1))
	}
	for _, n := range invalidNets() {
		for _, flow := range [][]int{nil, sameFlow(n, 0), sameFlow(n, -1)} {
			checkPricesKept(t, impl.Net{Nodes: n.Nodes, Arcs: n.Arcs}, flow, make([]int, 4))
		}
	}
}
