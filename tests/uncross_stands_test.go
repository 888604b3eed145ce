package tests

import (
	"math"
	"slices"
	"strconv"
	"strings"
	"testing"

	"loop.example/g00961/impl"
)

// checkSame checks SameStands for any two lists of paths, in both orders, and tells what it is.
func checkSame(t *testing.T, a []impl.Way, b []impl.Way) bool {
	t.Helper()
	want := plainSame(a, b)
	if got := impl.SameStands(a, b); got != want {
		t.Errorf("SameStands(%v, %v) is %v", a, b, got)
	}
	if got := impl.SameStands(b, a); got != want {
		t.Errorf("SameStands(%v, %v) is %v", b, a, got)
	}
	return want
}

// irregular is a list of paths with a fault, and regular paths that occupy the same cells, or nearly so.
type irregular struct {
	name string
	ways string
	good string
}

// Paths whose number, or whose number of cells, is not allowed.
func unevenWays() []irregular {
	nine := strings.Repeat("5,", 9)
	ten := "0 1, 1 2, 2 3, 3 4, 4 5, 5 6, 6 7, 7 8, 8 9, 9 10"
	return []irregular{
		{"no paths", "", "5"},
		{"MaxRobots+1 paths", ten + ", 10 11", ten},
		{"MaxRobots+1 paths that stay", "0,1,2,3,4,5,6,7,8,9,10", "0,1,2,3,4,5,6,7,8,9"},
		{"MaxRobots+1 paths with the same cell only", nine + "5,5", nine + "5"},
		{"MaxRobots+2 paths with the same cell only", nine + "5,5,5", "5"},
		{"MaxRobots+1 paths, of which ten are in swaps", "0 1, 1 0, 2 3, 3 2, 4 5, 5 4, 6 7, 7 6, 8 9, 9 8, 10 10", ten},
		{"MaxRobots+1 paths, the last one without cells", ten + ",", ten},
		{"100 paths", strings.Repeat("5,", 99) + "5", "5"},
		{"a path without cells", " ", "5"},
		{"two paths without cells", ",", "5, 6"},
		{"MaxRobots paths without cells", strings.Repeat(",", 9), "5"},
		{"MaxRobots+1 paths without cells", strings.Repeat(",", 10), "5"},
		{"the first path has no cells", ",5", "5"},
		{"the last path has no cells", "5,", "5"},
		{"the path in the middle has no cells", "5 6,,7 8", "5 6, 7 8"},
		{"the first path is shorter", "5 6, 1 2 3", "1 2 3, 5 6 7"},
		{"the last path is shorter", "1 2 3, 5 6", "1 2 3, 5 6 7"},
		{"the path in the middle is shorter", "5 6 7, 8 9, 1 2 3", "5 6 7, 8 9 8, 1 2 3"},
		{"the first path is longer", "5 6 7, 1 2", "5 6, 1 2"},
		{"the last path is longer", "1 2, 5 6 7", "1 2, 5 6"},
		{"one cell and two", "5, 6 7", "5, 6"},
		{"two cells and one", "6 7, 5", "5, 6"},
		{"one cell and two, the same ones", "5, 5 5", "5"},
		{"a shorter path beside a swap", "1 2, 2 1, 5", "1 2, 2 1, 5 5"},
		{"a longer path beside a ring", "1 2, 2 3, 3 1, 5 5 5", "1 2, 2 3, 3 1, 5 5"},
	}
}

// Paths that meet, at one time or at several ones.
func meetingWays() []irregular {
	least, most := strconv.Itoa(math.MinInt), strconv.Itoa(math.MaxInt)
	return []irregular{
		{"a meeting at the first time", "5 1 2 3, 5 4 6 7", "5 1 2 3, 8 4 6 7"},
		{"a meeting at the second time", "1 5 2 3, 4 5 6 7", "1 5 2 3, 4 8 6 7"},
		{"a meeting at the third time", "1 2 5 3, 4 6 5 7", "1 2 5 3, 4 6 8 7"},
		{"a meeting at the last time", "1 2 3 5, 4 6 7 5", "1 2 3 5, 4 6 7 8"},
		{"a meeting at the first time of two cells", "5 1, 5 2", "5 1, 6 2"},
		{"a meeting at the last time of two cells", "1 5, 2 5", "1 5, 2 6"},
		{"a meeting at both times", "5 6, 5 6", "5 6"},
		{"meetings at two times", "5 1 6, 5 2 6", "5 1 6, 7 2 8"},
		{"a robot comes to one that stays", "1 2, 2 2", "1 1, 2 2"},
		{"a robot stays where another one comes from", "1 1, 1 2", "1 1, 2 2"},
		{"two robots come from both sides", "1 2, 3 2", "1 2, 3 3"},
		{"the same path twice", "1 2 3, 1 2 3", "1 2 3"},
		{"the same path MaxRobots times", strings.Repeat("1 2 3,", 9) + "1 2 3", "1 2 3"},
		{"the same path twice beside another one", "1 2 3, 4 5 6, 1 2 3", "1 2 3, 4 5 6"},
		{"the first and the last path", "1 5, 2 3, 6 5", "1 5, 2 3, 6 6"},
		{"the last two of MaxRobots paths", "1 11, 2 12, 3 13, 4 14, 5 15, 6 16, 7 17, 8 18, 9 19, 10 19", "1 11, 2 12, 3 13, 4 14, 5 15, 6 16, 7 17, 8 18, 9 19, 10 20"},
		{"a meeting beside a swap", "1 2, 2 1, 5 6, 7 6", "1 2, 2 1, 5 6, 7 7"},
		{"a meeting beside a ring", "1 2, 2 3, 3 1, 5 6, 7 6", "1 2, 2 3, 3 1, 5 6, 7 7"},
		{"a third path comes to a cell of a swap", "1 2, 2 1, 3 2", "1 2, 2 1, 3 3"},
		{"a third path comes from a cell of a ring", "1 2, 2 3, 3 1, 1 5", "1 2, 2 3, 3 1"},
		{"a meeting after a swap", "1 2 2 2, 2 1 1 1, 3 3 3 1", "1 2 2 2, 2 1 1 1, 3 3 3 3"},
		{"a meeting before a swap", "1 1 1 2, 2 2 2 1, 2 3 3 3", "1 1 1 2, 2 2 2 1, 3 3 3 3"},
		{"a meeting between two swaps", "1 2 5 2 1, 2 1 5 1 2", "1 2 5 2 1, 2 1 6 1 2"},
		{"a negative number", "-1 2, -1 3", "-1 2, -2 3"},
		{"a number past any grid", "1 1000, 2 1000", "1 1000, 2 1001"},
		{"the least number", "1 " + least + ", 2 " + least, "1 " + least + ", 2 " + most},
		{"the greatest number", most + " 1, " + most + " 2", most + " 1, " + least + " 2"},
	}
}

func TestUncrossOfIrregularWays(t *testing.T) {
	for _, c := range append(unevenWays(), meetingWays()...) {
		bad, good := pathsIn(t, c.ways), pathsIn(t, c.good)
		if got, ok := impl.Uncrossed(bad); ok || len(got) != 0 {
			t.Errorf("%s: Uncrossed of %q = %v and %v", c.name, c.ways, got, ok)
		}
		if got := impl.Crossings(bad); got != -1 {
			t.Errorf("%s: %q has %d crossings", c.name, c.ways, got)
		}
		if impl.SameStands(bad, bad) || impl.SameStands(bad, good) || impl.SameStands(good, bad) {
			t.Errorf("%s: SameStands of %q and itself or %q is true", c.name, c.ways, c.good)
		}
		if checkUncrossed(t, bad) != -1 || checkUncrossed(t, good) < 0 || checkSame(t, bad, good) {
			t.Errorf("%s: the test takes %q for regular, or %q for irregular", c.name, c.ways, c.good)
		}
	}
}

// Each path of each list of regular ways is made shorter or longer, or meets another one at each time.
func TestUncrossOfSpoiledWays(t *testing.T) {
	bad := func(ways []impl.Way) {
		t.Helper()
		if got := checkUncrossed(t, ways); got != -1 {
			t.Errorf("%v has %d crossings", ways, got)
		}
	}
	for _, c := range slices.Concat(swapRests(), ringRests(), uncrossedAlready()) {
		good := pathsIn(t, c.ways)
		for i, w := range good {
			for time := range w.Cells {
				for other, v := range good {
					ways := cloneWays(good)
					ways[i].Cells[time] = v.Cells[time]
					if i != other && len(w.Cells) > 1 {
						bad(ways)
					} else {
						checkUncrossed(t, ways)
					}
				}
			}
			ways := cloneWays(good)
			ways[i].Cells = nil
			bad(ways)
			if len(good) > 1 {
				ways[i].Cells = w.Cells[1:]
				bad(ways)
				ways[i].Cells = append(slices.Clone(w.Cells), -77)
				bad(ways)
			}
			if len(w.Cells) > 1 {
				bad(append(cloneWays(good), w))
			}
		}
		more := cloneWays(good)
		for len(more) <= impl.MaxRobots {
			more = append(more, impl.Way{Cells: slices.Repeat([]int{-100 - len(more)}, len(good[0].Cells))})
		}
		bad(more)
		if got, want := checkUncrossed(t, more[:impl.MaxRobots]), c.crossings; got != want {
			t.Errorf("%s: with robots that stay, %q has %d crossings, want %d", c.name, c.ways, got, want)
		}
	}
}

func TestSameStandsTables(t *testing.T) {
	for _, c := range []struct {
		name string
		a, b string
		want bool
	}{
		{"the same path", "5 6 7", "5 6 7", true},
		{"the same paths", "0 1 1, 1 0 2", "0 1 1, 1 0 2", true},
		{"the same paths in another order", "0 1 1, 1 0 2", "1 0 2, 0 1 1", true},
		{"the same three paths in another order", "1 2 3, 4 5 6, 7 8 9", "7 8 9, 1 2 3, 4 5 6", true},
		{"the example", "0 1 1, 1 0 2", "0 0 2, 1 1 1", true},
		{"the example, in another order", "0 1 1, 1 0 2", "1 1 1, 0 0 2", true},
		{"paths that exchange their rests", "1 2 3 4, 5 6 7 8", "1 2 7 8, 5 6 3 4", true},
		{"paths that exchange their first cells", "1 2 3 4, 5 6 7 8", "5 2 3 4, 1 6 7 8", true},
		{"paths that exchange their last cells", "1 2 3 4, 5 6 7 8", "1 2 3 8, 5 6 7 4", true},
		{"three paths that exchange their cells at each time", "1 2 3, 4 5 6, 7 8 9", "4 8 3, 7 2 9, 1 5 6", true},
		{"a swap and robots that stay", "1 2, 2 1", "1 1, 2 2", true},
		{"a ring and robots that stay", "1 2, 2 3, 3 1", "1 1, 2 2, 3 3", true},
		{"a ring and the same the other way round", "1 2, 2 3, 3 1", "1 3, 2 1, 3 2", true},
		{"negative numbers", "-1 -2, -3 -4", "-3 -2, -1 -4", true},
		{"one path with one cell", "5", "5", true},
		{"paths with one cell", "5, 6", "6, 5", true},
		{"paths with one cell, the same one", "5, 5", "5, 5", true},
		{"the same cell only, once and twice", "5, 5", "5", true},
		{"the same two cells only, one of them twice", "5, 6, 5", "6, 5", true},
		{"the same two cells only, each of them twice", "5, 5, 6", "6, 6, 5", true},
		{"a difference at the first time", "1 2 3 4, 5 6 7 8", "1 2 3 4, 9 6 7 8", false},
		{"a difference at the second time", "1 2 3 4, 5 6 7 8", "1 2 3 4, 5 9 7 8", false},
		{"a difference at the third time", "1 2 3 4, 5 6 7 8", "1 2 9 4, 5 6 7 8", false},
		{"a difference at the last time", "1 2 3 4, 5 6 7 8", "1 2 3 9, 5 6 7 8", false},
		{"a difference of one path", "5 6", "5 7", false},
		{"a difference in the sign", "5 6", "5 -6", false},
		{"the same sum", "1 1, 4 4", "2 1, 3 4", false},
		{"the same least and greatest cell", "1 1, 5 5, 9 9", "1 1, 4 5, 9 9", false},
		{"the same cells at other times", "1 2, 3 4", "2 1, 4 3", false},
		{"the same cells a time later", "1 2 2, 3 4 4", "1 1 2, 3 3 4", false},
		{"the other path moves first", "1 2 2, 3 3 4", "1 1 2, 3 4 4", false},
		{"a cell more per path", "1 2, 3 4", "1 2 2, 3 4 4", false},
		{"a cell less per path", "1 2 3, 4 5 6", "1 2, 4 5", false},
		{"one cell and two", "5", "5 5", false},
		{"one cell per path and two", "5, 6", "5 5, 6 6", false},
		{"a path more", "1 2, 3 4", "1 2, 3 4, 5 6", false},
		{"a path less, the first one", "1 2, 3 4", "3 4", false},
		{"a path less, the last one", "1 2, 3 4", "1 2", false},
		{"a path more, with one cell", "5", "5, 6", false},
		{"other cells with one cell", "5, 6", "5, 7", false},
		{"one cell, one path", "5", "6", false},
		{"the same cells, once and twice, and another one", "5, 5", "5, 6", false},
	} {
		if got := checkSame(t, pathsIn(t, c.a), pathsIn(t, c.b)); got != c.want || impl.SameStands(pathsIn(t, c.a), pathsIn(t, c.b)) != c.want {
			t.Errorf("%s: SameStands of %q and %q is not %v, or the test takes it so", c.name, c.a, c.b, c.want)
		}
	}
}

// All pairs of short lists of paths, also irregular ones.
func TestSameStandsOfAllPairs(t *testing.T) {
	var lists [][]impl.Way
	for _, c := range []struct{ count, length, most int }{{0, 0, 0}, {1, 0, 0}, {2, 0, 0}, {1, 1, 2}, {1, 2, 2}, {1, 3, 1}, {2, 1, 2}, {3, 1, 2}, {2, 2, 2}, {2, 3, 1}, {3, 2, 2}} {
		for _, list := range listsFrom(0, c.most, c.count*c.length) {
			ways := make([]impl.Way, c.count)
			for i := range ways {
				ways[i].Cells = list[i*c.length:][:c.length]
			}
			lists = append(lists, ways)
		}
	}
	regular, same := 0, 0
	for i, a := range lists {
		for _, b := range lists[:i+1] {
			if checkSame(t, a, b) {
				same++
			}
		}
		if plainRegular(a) {
			regular++
		}
	}
	if want := 3 + 9 + 8 + 9 + 27 + 6*6 + 2*2*2 + 6*6; regular != want || same < 2*want {
		t.Errorf("%d lists are regular, want %d, and only %d pairs occupy the same cells", regular, want, same)
	}
}

// turning has paths that never meet: at each time, some robots come to other cells of a few, among them those of other robots.
func turning(s *numbers, count int, cells int, length int) []impl.Way {
	places := make([]int, cells)
	for i := range places {
		places[i] = i
	}
	ways := make([]impl.Way, count)
	for range length {
		for range s.below(2*cells) / 2 {
			a, b := s.below(cells), s.below(cells)
			places[a], places[b] = places[b], places[a]
		}
		for i := range ways {
			ways[i].Cells = append(ways[i].Cells, places[i])
		}
	}
	return ways
}

// mixedAt has the same cells at each time, in other paths.
func mixedAt(s *numbers, ways []impl.Way) []impl.Way {
	ways = cloneWays(ways)
	for time := range ways[0].Cells {
		for i := range ways {
			a, b := ways[i].Cells, ways[s.below(i+1)].Cells
			a[time], b[time] = b[time], a[time]
		}
	}
	return ways
}

// checkMixed checks regular paths, their cells in other paths, and both with one change.
func checkMixed(t *testing.T, s *numbers, ways []impl.Way) int {
	t.Helper()
	other := mixedAt(s, ways)
	checkUncrossed(t, other)
	if !checkSame(t, ways, other) || !impl.SameStands(ways, other) {
		t.Errorf("%v and %v do not occupy the same cells", ways, other)
	}
	changed, _ := impl.Uncrossed(ways)
	otherChanged, _ := impl.Uncrossed(other)
	checkSame(t, changed, otherChanged)
	for range 3 {
		wrong := spoiled(s, other, 30)
		checkUncrossed(t, wrong)
		checkSame(t, ways, wrong)
		checkSame(t, changed, wrong)
	}
	robot, time := s.below(len(ways)), s.below(len(ways[0].Cells))
	other[robot].Cells[time] = 1000
	if checkSame(t, ways, other) || impl.SameStands(changed, other) {
		t.Errorf("%v and %v occupy the same cells", ways, other)
	}
	return checkUncrossed(t, ways)
}

// Paths chosen at random, with swaps and rings at many times.
func TestUncrossOfSomeTurns(t *testing.T) {
	s := numbers(1313)
	few, many := 0, 0
	for count := 1; count <= impl.MaxRobots; count++ {
		for _, more := range []int{0, 1, 2, 5} {
			for _, length := range []int{1, 2, 3, 5, 9, impl.MaxSpan + 1, impl.MaxSpan + 2} {
				for range 4 {
					switch crossings := checkMixed(t, &s, turning(&s, count, count+more, length)); {
					case crossings < 0:
						t.Errorf("%d paths of %d cells are not regular", count, length)
					case crossings < 10:
						few++
					default:
						many++
					}
				}
			}
		}
	}
	if few < 300 || many < 300 {
		t.Errorf("only %d lists with few crossings, and %d with many", few, many)
	}
}
