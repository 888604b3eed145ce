package tests

import (
	"math"
	"slices"
	"strconv"
	"strings"
	"testing"

	"loop.example/g00961/impl"
)

// plainRegular reports whether there are 1 to MaxRobots paths with the same number of cells, at least one, that never meet.
func plainRegular(ways []impl.Way) bool {
	if len(ways) == 0 || len(ways) > 10 {
		return false
	}
	for _, w := range ways {
		if len(w.Cells) == 0 || len(w.Cells) != len(ways[0].Cells) {
			return false
		}
	}
	for time := range len(ways[0].Cells) - 1 {
		if plainMeet(ways, time) {
			return false
		}
	}
	return true
}

// crosses reports whether a path of regular ways is in a swap or a ring at a time.
func crosses(ways []impl.Way, time int, i int) bool {
	from, to := ways[i].Cells[time], ways[i].Cells[time+1]
	for _, w := range ways {
		if from != to && w.Cells[time] == to && w.Cells[time+1] == from {
			return true
		}
	}
	return closes(ways, time, []int{i})
}

// plainUncrossed changes all paths in swaps and rings, time by time, each as the document says it.
func plainUncrossed(ways []impl.Way) []impl.Way {
	for time := range len(ways[0].Cells) - 1 {
		changed := cloneWays(ways)
		for i, w := range ways {
			if !crosses(ways, time, i) {
				continue
			}
			changed[i].Cells[time+1] = w.Cells[time]
			for _, other := range ways {
				if other.Cells[time+1] == w.Cells[time] {
					copy(changed[i].Cells[time+2:], other.Cells[time+2:])
				}
			}
		}
		ways = changed
	}
	return ways
}

func plainCrossings(ways []impl.Way) int {
	crossings := 0
	for time := range len(ways[0].Cells) - 1 {
		for i := range ways {
			if crosses(ways, time, i) {
				crossings++
			}
		}
	}
	return crossings
}

// plainCovers reports whether the cells of a at each time are among those of b; the paths of each have the same number of cells.
func plainCovers(a []impl.Way, b []impl.Way) bool {
	for _, v := range a {
		for time, c := range v.Cells {
			if !slices.ContainsFunc(b, func(w impl.Way) bool { return w.Cells[time] == c }) {
				return false
			}
		}
	}
	return true
}

func plainSame(a []impl.Way, b []impl.Way) bool {
	return plainRegular(a) && plainRegular(b) && len(a[0].Cells) == len(b[0].Cells) && plainCovers(a, b) && plainCovers(b, a)
}

// checkWithoutCrossings checks the paths that Uncrossed returns for regular ways. Promise 13: they occupy the same cells and have no swaps and rings.
func checkWithoutCrossings(t *testing.T, ways []impl.Way, changed []impl.Way) {
	t.Helper()
	if len(changed) != len(ways) || !plainRegular(changed) {
		t.Errorf("%v became %v, which is not as many paths or not regular", ways, changed)
		return
	}
	if !impl.SameStands(changed, ways) || !impl.SameStands(ways, changed) || !plainSame(changed, ways) {
		t.Errorf("%v became %v, which occupies other cells", ways, changed)
	}
	if got := impl.Crossings(changed); got != 0 {
		t.Errorf("%v became %v, which has %d crossings", ways, changed, got)
	}
	for time := range len(ways[0].Cells) - 1 {
		if impl.MeetAt(changed, time) || impl.SwapsAt(changed, time) != 0 || impl.RingsAt(changed, time) != 0 {
			t.Errorf("%v became %v, which has a meeting, a swap or a ring at %d", ways, changed, time)
		}
	}
	if got, want := impl.MovesOf(changed), impl.MovesOf(ways)-impl.Crossings(ways); got != want || plainMovesOf(changed) != want {
		t.Errorf("%v became %v, which has %d moves, want %d", ways, changed, got, want)
	}
	for i, w := range changed {
		if len(w.Cells) != len(ways[i].Cells) || w.Cells[0] != ways[i].Cells[0] {
			t.Errorf("%v became %v: path %d begins elsewhere or has another length", ways, changed, i)
		}
	}
	if again, ok := impl.Uncrossed(changed); !ok || !sameWays(again, changed) {
		t.Errorf("%v became %v, and this became %v and %v", ways, changed, again, ok)
	}
}

// checkUncrossed checks the functions for any paths, and tells how many crossings they have, or -1 if they are not regular.
func checkUncrossed(t *testing.T, ways []impl.Way) int {
	t.Helper()
	changed, ok := impl.Uncrossed(ways)
	crossings, same := impl.Crossings(ways), impl.SameStands(ways, ways)
	if !plainRegular(ways) {
		if ok || len(changed) != 0 || crossings != -1 || same {
			t.Errorf("%v is not regular: Uncrossed is %v and %v, Crossings %d, SameStands %v", ways, changed, ok, crossings, same)
		}
		return -1
	}
	if want := plainUncrossed(ways); !ok || !sameWays(changed, want) {
		t.Errorf("Uncrossed(%v) = %v and %v, want %v", ways, changed, ok, want)
	}
	if want := plainCrossings(ways); crossings != want || !same {
		t.Errorf("%v: Crossings is %d, want %d, and SameStands is %v", ways, crossings, want, same)
	}
	checkWithoutCrossings(t, ways, changed)
	return crossings
}

// uncrossCase is a list of paths, the paths without swaps and rings, and the number of crossings.
type uncrossCase struct {
	name      string
	ways      string
	changed   string
	crossings int
}

// Paths with swaps, each of which continues like the path with which it would exchange its cell.
func swapRests() []uncrossCase {
	least, most := strconv.Itoa(math.MinInt), strconv.Itoa(math.MaxInt)
	return []uncrossCase{
		{"the example", "0 1 1, 1 0 2", "0 0 2, 1 1 1", 2},
		{"the example, the other path first", "1 0 2, 0 1 1", "1 1 1, 0 0 2", 2},
		{"a swap at the only time", "5 6, 6 5", "5 5, 6 6", 2},
		{"a swap at the first time", "5 6 7 8, 6 5 4 3", "5 5 4 3, 6 6 7 8", 2},
		{"a swap at the first time, and both stay", "5 6 6 6, 6 5 5 5", "5 5 5 5, 6 6 6 6", 2},
		{"a swap in the middle", "4 5 6 7 8, 7 6 5 4 3", "4 5 5 4 3, 7 6 6 7 8", 2},
		{"a swap in the middle of robots that stay before and after it", "5 5 6 6, 6 6 5 5", "5 5 5 5, 6 6 6 6", 2},
		{"a swap at the last time", "3 4 5, 6 5 4", "3 4 4, 6 5 5", 2},
		{"a swap at the last time of robots that stay before", "5 5 5 6, 6 6 6 5", "5 5 5 5, 6 6 6 6", 2},
		{"another robot moves on", "5 6 7, 6 5 4, 1 2 3", "5 5 4, 6 6 7, 1 2 3", 2},
		{"another robot stays", "1 1 1, 5 6 7, 6 5 4", "1 1 1, 5 5 4, 6 6 7", 2},
		{"the first and the last path of four", "5 6 7, 1 1 1, 2 3 4, 6 5 8", "5 5 8, 1 1 1, 2 3 4, 6 6 7", 2},
		{"two swaps at once", "1 2 12, 2 1 11, 3 4 14, 4 3 13", "1 1 11, 2 2 12, 3 3 13, 4 4 14", 4},
		{"two swaps at once, one inside the other", "1 2 12, 3 4 14, 4 3 13, 2 1 11", "1 1 11, 3 3 13, 4 4 14, 2 2 12", 4},
		{"three swaps at once", "1 2 11, 3 4 13, 5 6 15, 2 1 12, 4 3 14, 6 5 16", "1 1 12, 3 3 14, 5 5 16, 2 2 11, 4 4 13, 6 6 15", 6},
		{"MaxRobots paths in swaps", "0 1 21, 1 0 20, 2 3 23, 3 2 22, 4 5 25, 5 4 24, 6 7 27, 7 6 26, 8 9 29, 9 8 28",
			"0 0 20, 1 1 21, 2 2 22, 3 3 23, 4 4 24, 5 5 25, 6 6 26, 7 7 27, 8 8 28, 9 9 29", 10},
		{"the same swap twice", "5 6 5, 6 5 6", "5 5 5, 6 6 6", 4},
		{"the same swap three times", "5 6 5 6, 6 5 6 5", "5 5 5 5, 6 6 6 6", 6},
		{"the same swap twice, with a rest", "5 6 5 4, 6 5 6 7", "5 5 5 4, 6 6 6 7", 4},
		{"the same swap a time later again", "5 6 6 5 1, 6 5 5 6 2", "5 5 5 5 1, 6 6 6 6 2", 4},
		{"the same swap after a detour", "1 2 5 2 1, 2 1 6 1 2", "1 1 6 1 1, 2 2 5 2 2", 4},
		{"a swap in another place after a swap", "1 2 3 4, 2 1 4 3", "1 1 4 4, 2 2 3 3", 4},
		{"a swap with a third path after a swap", "1 2 3, 2 1 1, 3 3 2", "1 1 1, 2 2 2, 3 3 3", 4},
		{"a swap with a third path after a swap, with rests", "1 2 3 4, 2 1 1 0, 3 3 2 1", "1 1 1 0, 2 2 2 1, 3 3 3 4", 4},
		{"a swap with a third path some time after a swap", "1 2 2 3, 2 1 1 1, 3 3 3 2", "1 1 1 1, 2 2 2 2, 3 3 3 3", 4},
		{"a robot that would pass three others", "1 2 3 4, 2 1 1 1, 3 3 2 2, 4 4 4 3", "1 1 1 1, 2 2 2 2, 3 3 3 3, 4 4 4 4", 6},
		{"a robot that would pass three others, with rests", "1 2 3 4 14, 2 1 1 1 11, 3 3 2 2 12, 4 4 4 3 13", "1 1 1 1 11, 2 2 2 2 12, 3 3 3 3 13, 4 4 4 4 14", 6},
		{"swaps of two pairs, then of other pairs", "1 2 3 13, 2 1 4 14, 3 4 1 11, 4 3 2 12", "1 1 1 11, 2 2 2 12, 3 3 3 13, 4 4 4 14", 8},
		{"swaps of two pairs, then of the paths in the middle", "1 2 3 13, 2 1 1 11, 3 4 4 14, 4 3 2 12", "1 1 1 11, 2 2 2 12, 3 3 3 13, 4 4 4 14", 6},
		{"negative numbers", "-1 -2 -3, -2 -1 -4", "-1 -1 -4, -2 -2 -3", 2},
		{"-1 and 0", "-1 0 1, 0 -1 2", "-1 -1 2, 0 0 1", 2},
		{"numbers past any grid", "63 64 1000, 64 63 999", "63 63 999, 64 64 1000", 2},
		{"the least and the greatest number", least + " " + most + " 1, " + most + " " + least + " 2", least + " " + least + " 2, " + most + " " + most + " 1", 2},
	}
}

// Paths with rings, each of which continues like the path that would come to its cell.
func ringRests() []uncrossCase {
	return []uncrossCase{
		{"a ring at the only time", "1 2, 2 3, 3 1", "1 1, 2 2, 3 3", 3},
		{"a ring of three at the first time", "1 2 12, 2 3 13, 3 1 11", "1 1 11, 2 2 12, 3 3 13", 3},
		{"a ring of three, the other way round", "1 3 13, 2 1 11, 3 2 12", "1 1 11, 2 2 12, 3 3 13", 3},
		{"a ring of three, and all stay", "1 2 2 2, 2 3 3 3, 3 1 1 1", "1 1 1 1, 2 2 2 2, 3 3 3 3", 3},
		{"a ring of three with longer rests", "1 2 12 22, 2 3 13 23, 3 1 11 21", "1 1 11 21, 2 2 12 22, 3 3 13 23", 3},
		{"a ring of three in the middle", "10 1 2 12, 20 2 3 13, 30 3 1 11", "10 1 1 11, 20 2 2 12, 30 3 3 13", 3},
		{"a ring of three at the last time", "10 1 2, 20 2 3, 30 3 1", "10 1 1, 20 2 2, 30 3 3", 3},
		{"a ring of four", "0 1 10, 1 3 11, 2 0 12, 3 2 13", "0 0 12, 1 1 10, 2 2 13, 3 3 11", 4},
		{"a ring of four in the middle", "5 0 1 10, 6 1 3 11, 7 2 0 12, 8 3 2 13", "5 0 0 12, 6 1 1 10, 7 2 2 13, 8 3 3 11", 4},
		{"a ring of four at the last time", "5 0 1, 6 1 3, 7 2 0, 8 3 2", "5 0 0, 6 1 1, 7 2 2, 8 3 3", 4},
		{"a ring of five", "1 2 12, 2 3 13, 3 4 14, 4 5 15, 5 1 11", "1 1 11, 2 2 12, 3 3 13, 4 4 14, 5 5 15", 5},
		{"a ring of MaxRobots", "0 1 21, 1 2 22, 2 3 23, 3 4 24, 4 5 25, 5 6 26, 6 7 27, 7 8 28, 8 9 29, 9 0 20",
			"0 0 20, 1 1 21, 2 2 22, 3 3 23, 4 4 24, 5 5 25, 6 6 26, 7 7 27, 8 8 28, 9 9 29", 10},
		{"a ring of MaxRobots in another order", "0 3 23, 1 4 24, 2 5 25, 3 6 26, 4 7 27, 5 8 28, 6 9 29, 7 0 20, 8 1 21, 9 2 22",
			"0 0 20, 1 1 21, 2 2 22, 3 3 23, 4 4 24, 5 5 25, 6 6 26, 7 7 27, 8 8 28, 9 9 29", 10},
		{"two rings of three, in turn", "1 2 12, 4 5 15, 2 3 13, 5 6 16, 3 1 11, 6 4 14", "1 1 11, 4 4 14, 2 2 12, 5 5 15, 3 3 13, 6 6 16", 6},
		{"a ring and a swap at once", "1 2 12, 2 3 13, 3 1 11, 4 5 15, 5 4 14", "1 1 11, 2 2 12, 3 3 13, 4 4 14, 5 5 15", 5},
		{"a ring, two swaps, and three robots in none", "1 2 12, 7 7 9, 4 5 15, 2 3 13, 20 21 22, 5 4 14, 3 1 11, 30 31 32, 21 40 41, 42 42 42",
			"1 1 11, 7 7 9, 4 4 14, 2 2 12, 20 21 22, 5 5 15, 3 3 13, 30 31 32, 21 40 41, 42 42 42", 5},
		{"a ring beside a robot that stays and one that moves", "7 7 17, 1 2 12, 2 3 13, 8 9 19, 3 1 11", "7 7 17, 1 1 11, 2 2 12, 8 9 19, 3 3 13", 3},
		{"the same ring twice", "1 2 3, 2 3 1, 3 1 2", "1 1 1, 2 2 2, 3 3 3", 6},
		{"the same ring three times", "1 2 3 1, 2 3 1 2, 3 1 2 3", "1 1 1 1, 2 2 2 2, 3 3 3 3", 9},
		{"a ring there and back", "1 2 1 11, 2 3 2 12, 3 1 3 13", "1 1 1 11, 2 2 2 12, 3 3 3 13", 6},
		{"a swap after a ring", "1 2 3 13, 2 3 2 12, 3 1 1 11", "1 1 1 11, 2 2 2 12, 3 3 3 13", 5},
		{"a ring after a swap", "1 2 3 13, 2 1 2 12, 3 3 1 11", "1 1 1 11, 2 2 2 12, 3 3 3 13", 5},
		{"a ring with a fourth path after a ring", "1 2 2 12, 2 3 4 14, 3 1 3 13, 4 4 1 11", "1 1 1 11, 2 2 2 12, 3 3 3 13, 4 4 4 14", 6},
		{"a row after a ring", "1 2 3 13, 2 3 4 14, 3 1 2 12", "1 1 2 12, 2 2 3 13, 3 3 4 14", 3},
		{"a ring after a row", "1 2 3 13, 2 3 4 14, 3 4 2 12", "1 2 2 12, 2 3 3 13, 3 4 4 14", 3},
		{"a ring of cells that are no cells of a grid", "-1 64 5, 64 1000 6, 1000 -1 7", "-1 -1 7, 64 64 5, 1000 1000 6", 3},
	}
}

// Paths without swaps and rings, which come back as they are.
func uncrossedAlready() []uncrossCase {
	var cases []uncrossCase
	for name, ways := range map[string]string{
		"one path with one cell":                              "5",
		"one path that stays":                                 "5 5 5",
		"one path that moves":                                 "5 6 7",
		"one path there and back":                             "5 6 5 6",
		"one path with a negative number":                     "-5",
		"two paths with one cell":                             "5, 6",
		"two paths with the same cell only":                   "5, 5",
		"MaxRobots paths with the same cell only":             strings.Repeat("5,", 9) + "5",
		"MaxRobots paths with one cell":                       "0, 1, 2, 3, 4, 5, 6, 7, 8, 9",
		"two paths that stay":                                 "5 5 5, 6 6 6",
		"two paths that follow one another":                   "5 6 7, 6 7 8",
		"two paths that follow one another, the second first": "6 7 8, 5 6 7",
		"three paths that follow one another":                 "1 2 3, 2 3 4, 3 4 5",
		"an exchange in two steps":                            "5 6 7, 7 7 5",
		"an exchange by way of a third cell":                  "5 7 6, 6 5 5",
		"a ring in two steps":                                 "1 2 2, 2 3 3, 4 4 1",
		"a ring of cells in which one cell is empty":          "0 1 3, 1 3 2, 2 0 1",
		"a robot comes to a cell that is left at that time":   "5 6 6, 4 4 5",
		"a robot comes to a cell that was left a time before": "5 6 6, 4 4 4, 7 7 5",
		"the same cell at different times":                    "1 2 3, 4 1 2, 5 4 1",
		"MaxRobots paths that follow one another":             "0 1, 1 2, 2 3, 3 4, 4 5, 5 6, 6 7, 7 8, 8 9, 9 10",
		"MaxRobots paths that stay":                           "0 0, 1 1, 2 2, 3 3, 4 4, 5 5, 6 6, 7 7, 8 8, 9 9",
		"steps between cells that are not adjacent":           "0 63 -1 1000, 63 -1 1000 0",
	} {
		cases = append(cases, uncrossCase{name, ways, ways, 0})
	}
	return cases
}

func TestUncrossedTables(t *testing.T) {
	for _, c := range slices.Concat(swapRests(), ringRests(), uncrossedAlready()) {
		ways, want := pathsIn(t, c.ways), pathsIn(t, c.changed)
		if got, ok := impl.Uncrossed(ways); !ok || !sameWays(got, want) {
			t.Errorf("%s: Uncrossed of %q = %v and %v, want %q", c.name, c.ways, got, ok, c.changed)
		}
		if got := impl.Crossings(ways); got != c.crossings {
			t.Errorf("%s: %q has %d crossings, want %d", c.name, c.ways, got, c.crossings)
		}
		checkUncrossed(t, ways)
		// The order of the paths makes no other difference than that of the result.
		slices.Reverse(ways)
		slices.Reverse(want)
		if got, ok := impl.Uncrossed(ways); !ok || !sameWays(got, want) {
			t.Errorf("%s: in reverse order, Uncrossed of %q = %v and %v, want %q", c.name, c.ways, got, ok, c.changed)
		}
	}
	for _, c := range append(swapCases(), ringCases()...) {
		checkUncrossed(t, pathsIn(t, c.ways))
	}
}

// All lists of at most four paths over few cells.
func TestUncrossedOfAllPaths(t *testing.T) {
	regular, others := 0, 0
	for _, c := range []struct{ count, length, least, most int }{
		{1, 0, 0, 0}, {1, 1, -1, 1}, {1, 3, -1, 1}, {2, 1, 0, 1}, {2, 2, -1, 2}, {2, 3, 0, 2}, {2, 4, 0, 2}, {2, 5, 0, 1}, {3, 1, 0, 2}, {3, 2, 0, 3}, {3, 3, 0, 2}, {4, 2, 0, 3},
	} {
		for _, list := range listsFrom(c.least, c.most, c.count*c.length) {
			ways := make([]impl.Way, c.count)
			for i := range ways {
				ways[i].Cells = list[i*c.length:][:c.length]
			}
			if checkUncrossed(t, ways) < 0 {
				others++
			} else {
				regular++
			}
		}
	}
	if regular < 1000 || others < 1000 {
		t.Errorf("only %d regular lists and %d others", regular, others)
	}
}

// eachTurn visits all paths of robots that never meet, in few cells, which begin in the first cells.
func eachTurn(count int, cells int, length int, visit func(ways []impl.Way)) {
	ways := make([]impl.Way, count)
	for i := range ways {
		ways[i].Cells = []int{i}
	}
	var place func(i int)
	place = func(i int) {
		if i == count*length {
			visit(ways)
			return
		}
		robot, time := i%count, i/count
		for c := range cells {
			if !slices.ContainsFunc(ways[:robot], func(w impl.Way) bool { return w.Cells[time] == c }) {
				ways[robot].Cells = append(ways[robot].Cells, c)
				place(i + 1)
				ways[robot].Cells = ways[robot].Cells[:time]
			}
		}
	}
	place(count)
}

// All changes of the places of robots at several times one after another.
func TestUncrossedOfAllTurns(t *testing.T) {
	crossings := map[int]int{}
	for _, c := range []struct{ count, cells, length, turns int }{
		{1, 2, 6, 32}, {2, 2, 8, 128}, {2, 3, 6, 7776}, {3, 3, 6, 7776}, {3, 4, 4, 13824}, {4, 4, 4, 13824}, {4, 5, 3, 14400}, {5, 5, 3, 14400}, {6, 6, 2, 720}, {5, 7, 2, 2520},
	} {
		turns := 0
		eachTurn(c.count, c.cells, c.length, func(ways []impl.Way) {
			crossings[checkUncrossed(t, ways)]++
			turns++
		})
		if turns != c.turns {
			t.Errorf("%d paths of %d robots in %d cells, want %d", turns, c.count, c.cells, c.turns)
		}
	}
	if crossings[-1] > 0 || crossings[1] > 0 || crossings[15] == 0 || crossings[14] == 0 {
		t.Errorf("the numbers of crossings are %v", crossings)
	}
}

// All kinds of steps that up to MaxRobots robots can take without meeting, with a cell before them and a cell after them.
func TestUncrossedOfAllKinds(t *testing.T) {
	s := numbers(13)
	for count := 1; count <= impl.MaxRobots; count++ {
		for inCircles := range count + 1 {
			for _, circles := range sums(inCircles, count) {
				for _, rows := range sums(count-inCircles, count) {
					// The paths that are alone in their circles stay.
					want := inCircles
					for _, size := range circles {
						if size == 1 {
							want--
						}
					}
					ways := mixed(&s, crossing(circles, rows))
					if got := checkUncrossed(t, ways); got != want {
						t.Errorf("%v has %d crossings, want %d", ways, got, want)
					}
				}
			}
		}
	}
}
