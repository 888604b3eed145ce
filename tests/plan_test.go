package tests

import (
	"math"
	"slices"
	"strconv"
	"strings"
	"testing"

	"loop.example/g00961/impl"
)

func plainLevel(ways []impl.Way, time int) bool {
	if len(ways) == 0 || len(ways) > 10 {
		return false
	}
	for _, w := range ways {
		if len(w.Cells) != len(ways[0].Cells) {
			return false
		}
	}
	return time >= 0 && time < len(ways[0].Cells)-1
}

func plainMeet(ways []impl.Way, time int) bool {
	if !plainLevel(ways, time) {
		return false
	}
	for i, v := range ways {
		for _, w := range ways[:i] {
			if v.Cells[time] == w.Cells[time] || v.Cells[time+1] == w.Cells[time+1] {
				return true
			}
		}
	}
	return false
}

func plainSwaps(ways []impl.Way, time int) int {
	if !plainLevel(ways, time) || plainMeet(ways, time) {
		return 0
	}
	swaps := 0
	for i, v := range ways {
		for _, w := range ways[:i] {
			if v.Cells[time+1] == w.Cells[time] && w.Cells[time+1] == v.Cells[time] && v.Cells[time] != w.Cells[time] {
				swaps++
			}
		}
	}
	return swaps
}

// closes reports whether a chain of paths, each of which comes to the cell of the next one, is a ring or can be continued to one.
func closes(ways []impl.Way, time int, chain []int) bool {
	end := ways[chain[len(chain)-1]].Cells[time+1]
	for next, w := range ways {
		if w.Cells[time] != end {
			continue
		}
		if next == chain[0] && len(chain) >= 3 {
			return true
		}
		if !slices.Contains(chain, next) && closes(ways, time, append(slices.Clone(chain), next)) {
			return true
		}
	}
	return false
}

func plainRings(ways []impl.Way, time int) int {
	if !plainLevel(ways, time) || plainMeet(ways, time) {
		return 0
	}
	rings := 0
	for i := range ways {
		if closes(ways, time, []int{i}) {
			rings++
		}
	}
	return rings
}

// timesOf has all times of paths, those before and after them, and those farthest away.
func timesOf(ways []impl.Way) []int {
	times := []int{math.MinInt, math.MinInt + 1, -3, -2, -1, math.MaxInt - 1, math.MaxInt}
	longest := 0
	for _, w := range ways {
		longest = max(longest, len(w.Cells))
	}
	for time := range longest + 2 {
		times = append(times, time)
	}
	return times
}

// checkTimes checks the functions that do not ask for a grid, at all times.
func checkTimes(t *testing.T, ways []impl.Way) {
	t.Helper()
	for _, time := range timesOf(ways) {
		if got, want := impl.LevelWays(ways, time), plainLevel(ways, time); got != want {
			t.Errorf("LevelWays(%v, %d) is %v, want %v", ways, time, got, want)
		}
		if got, want := impl.MeetAt(ways, time), plainMeet(ways, time); got != want {
			t.Errorf("MeetAt(%v, %d) is %v, want %v", ways, time, got, want)
		}
		if got, want := impl.SwapsAt(ways, time), plainSwaps(ways, time); got != want {
			t.Errorf("SwapsAt(%v, %d) = %d, want %d", ways, time, got, want)
		}
		if got, want := impl.RingsAt(ways, time), plainRings(ways, time); got != want {
			t.Errorf("RingsAt(%v, %d) = %d, want %d", ways, time, got, want)
		}
	}
}

func TestLevelWaysTables(t *testing.T) {
	ten := strings.Repeat("5 6 7,", 9) + "5 6 7"
	cases := []struct {
		name string
		ways string
		time int
		want bool
	}{
		{"no paths", "", 0, false},
		{"no paths, before them", "", -1, false},
		{"one path", "5 6", 0, true},
		{"one path, the last time", "5 6 7", 1, true},
		{"one path, the last cell", "5 6 7", 2, false},
		{"one path, past the last cell", "5 6 7", 3, false},
		{"one path of two cells, the last cell", "5 6", 1, false},
		{"before the first cell", "5 6 7", -1, false},
		{"before the first cell by two", "5 6 7", -2, false},
		{"the least time", "5 6 7", math.MinInt, false},
		{"the greatest time", "5 6 7", math.MaxInt, false},
		{"the greatest time but one", "5 6 7", math.MaxInt - 1, false},
		{"a path without cells", " ", 0, false},
		{"a path without cells, before it", " ", -1, false},
		{"a path without cells, before it by two", " ", -2, false},
		{"paths without cells", ",,", 0, false},
		{"a path with one cell", "5", 0, false},
		{"a path with one cell, before it", "5", -1, false},
		{"paths with one cell", "5, 6, 7", 0, false},
		{"two paths", "5 6 7, 1 2 3", 1, true},
		{"two paths, the last cell", "5 6 7, 1 2 3", 2, false},
		{"two paths, past the last cell", "5 6 7, 1 2 3", 3, false},
		{"the first path is shorter", "5 6, 1 2 3", 0, false},
		{"the first path is longer", "5 6 7, 1 2", 0, false},
		{"the middle path is shorter", "5 6 7, 8 9, 1 2 3", 0, false},
		{"the last path is shorter", "5 6 7, 1 2 3, 8 9", 0, false},
		{"the last path is longer", "5 6, 1 2, 7 8 9", 0, false},
		{"the first path has no cells", ", 1 2 3", 0, false},
		{"the last path has no cells", "1 2 3,", 0, false},
		{"the last path has one cell", "1 2 3, 5", 0, false},
		{"the same path twice", "5 6 7, 5 6 7", 0, true},
		{"MaxRobots paths", ten, 0, true},
		{"MaxRobots paths, the last time", ten, 1, true},
		{"MaxRobots paths, the last cell", ten, 2, false},
		{"MaxRobots+1 paths", ten + ",5 6 7", 0, false},
		{"MaxRobots+1 paths, the last one without cells", ten + ",", 0, false},
		{"negative numbers", "-1 -2, -3 -4", 0, true},
	}
	for _, c := range cases {
		ways := pathsIn(t, c.ways)
		if got := impl.LevelWays(ways, c.time); got != c.want {
			t.Errorf("%s: LevelWays of %q at %d is %v", c.name, c.ways, c.time, got)
		}
		checkTimes(t, ways)
	}
}

// Paths of all numbers with all numbers of cells, in which one path is shorter or longer.
func TestLevelWaysOfAllNumbers(t *testing.T) {
	for count := range impl.MaxRobots + 3 {
		for length := range 5 {
			ways := make([]impl.Way, count)
			for i := range ways {
				ways[i].Cells = slices.Repeat([]int{i}, length)
			}
			for time := -2; time <= length+1; time++ {
				want := count >= 1 && count <= impl.MaxRobots && time >= 0 && time <= length-2
				if got := impl.LevelWays(ways, time); got != want {
					t.Errorf("LevelWays of %d paths with %d cells at %d is %v", count, length, time, got)
				}
			}
			checkTimes(t, ways)
			for i := range ways {
				other := slices.Clone(ways)
				other[i].Cells = slices.Repeat([]int{i}, length+1)
				checkTimes(t, other)
				if got := impl.LevelWays(other, 0); got != (count == 1 && length > 0) {
					t.Errorf("LevelWays of %d paths with %d cells, but path %d with one more, is %v", count, length, i, got)
				}
			}
		}
	}
}

func TestMeetAtTables(t *testing.T) {
	least, most := strconv.Itoa(math.MinInt), strconv.Itoa(math.MaxInt)
	cases := []struct {
		name string
		ways string
		time int
		want bool
	}{
		{"no paths", "", 0, false},
		{"one path", "1 1 1", 0, false},
		{"different cells", "1 2 3, 4 5 6", 0, false},
		{"the same cell at time t", "1 2 7 3 4, 5 6 7 8 9", 2, true},
		{"the same cell at time t+1", "1 2 3 7 4, 5 6 8 7 9", 2, true},
		{"the same cell at both times", "1 2 7 7 4, 5 6 7 7 9", 2, true},
		{"different same cells at both times", "1 2 7 8 4, 5 6 7 8 9", 2, true},
		{"the same cell at an earlier time", "1 7 2 3 4, 5 7 6 8 9", 2, false},
		{"the same cell at a later time", "1 2 3 4 7, 5 6 8 9 7", 2, false},
		{"the same cell at all other times", "1 1 2 3 4, 1 1 5 6 4", 2, false},
		{"the same cell at the first time", "7 1, 7 2", 0, true},
		{"the same cell at the last time", "1 7, 2 7", 0, true},
		{"one path comes to the cell that the other one leaves", "1 2, 2 3", 0, false},
		{"two paths exchange their cells", "1 2, 2 1", 0, false},
		{"two paths come from both sides", "1 2, 3 2", 0, true},
		{"a path comes to a cell where another one stays", "1 2, 2 2", 0, true},
		{"the first and the last path", "1 5, 2 3, 6 5", 0, true},
		{"the last two paths", "1 2, 5 4, 5 6", 0, true},
		{"the same path twice", "1 2, 3 4, 1 2", 0, true},
		{"two pairs of paths", "1 2, 3 2, 4 5, 6 5", 0, true},
		{"MaxRobots paths, of which the last two meet", "1 11, 2 12, 3 13, 4 14, 5 15, 6 16, 7 17, 8 18, 9 19, 10 19", 0, true},
		{"MaxRobots paths", "1 11, 2 12, 3 13, 4 14, 5 15, 6 16, 7 17, 8 18, 9 19, 10 20", 0, false},
		{"MaxRobots+1 paths in the same cell", strings.Repeat("5 5,", 10) + "5 5", 0, false},
		{"a shorter path beside two that meet", "1 2, 1 2, 5", 0, false},
		{"a longer path beside two that meet", "1 2, 1 2, 5 6 7", 0, false},
		{"paths of different lengths in the same cell", "1 2 3, 1 2", 0, false},
		{"the same cell before the first time", "7 1, 7 2", -1, false},
		{"the same cell, and the next time is past it", "1 7, 2 7", 1, false},
		{"paths with one cell, the same one", "7, 7", 0, false},
		{"the same cell at the least time", "7 7, 7 7", math.MinInt, false},
		{"the same cell at the greatest time", "7 7, 7 7", math.MaxInt, false},
		{"the same negative number", "-1 2, -1 3", 0, true},
		{"the same negative number at time t+1", "2 -1, 3 -1", 0, true},
		{"different negative numbers", "-1 -2, -3 -4", 0, false},
		{"numbers past any grid", "1000 64, 1000 65", 0, true},
		{"the least number twice", least + " 1, " + least + " 2", 0, true},
		{"the greatest number twice", "1 " + most + ", 2 " + most, 0, true},
		{"the least and the greatest number", least + " 1, " + most + " 2", 0, false},
	}
	for _, c := range cases {
		ways := pathsIn(t, c.ways)
		if got := impl.MeetAt(ways, c.time); got != c.want {
			t.Errorf("%s: MeetAt of %q at %d is %v", c.name, c.ways, c.time, got)
		}
		checkTimes(t, ways)
	}
}

// crossingCase is a list of paths with the paths that are in swaps and in rings at a time.
type crossingCase struct {
	name  string
	ways  string
	time  int
	swaps int
	rings int
}

func swapCases() []crossingCase {
	least, most := strconv.Itoa(math.MinInt), strconv.Itoa(math.MaxInt)
	return []crossingCase{
		{"no paths", "", 0, 0, 0},
		{"one robot stays", "5 5", 0, 0, 0},
		{"one robot moves", "5 6", 0, 0, 0},
		{"two robots stay", "5 5, 6 6", 0, 0, 0},
		{"two robots move", "5 7, 6 8", 0, 0, 0},
		{"a swap", "5 6, 6 5", 0, 1, 0},
		{"a swap of cells that are not adjacent", "0 63, 63 0", 0, 1, 0},
		{"a swap of the first and the last path", "5 6, 1 1, 2 3, 6 5", 0, 1, 0},
		{"two swaps", "5 6, 1 2, 6 5, 2 1", 0, 2, 0},
		{"two swaps, one inside the other", "5 6, 1 2, 2 1, 6 5", 0, 2, 0},
		{"three swaps", "5 6, 1 2, 3 4, 2 1, 6 5, 4 3", 0, 3, 0},
		{"MaxRobots paths in swaps", "0 1, 1 0, 2 3, 3 2, 4 5, 5 4, 6 7, 7 6, 8 9, 9 8", 0, 5, 0},
		{"MaxRobots paths in swaps, the second half reversed", "0 9, 1 8, 2 7, 3 6, 4 5, 5 4, 6 3, 7 2, 8 1, 9 0", 0, 5, 0},
		{"MaxRobots+1 paths, of which ten are in swaps", "0 1, 1 0, 2 3, 3 2, 4 5, 5 4, 6 7, 7 6, 8 9, 9 8, 10 10", 0, 0, 0},
		{"a swap beside a robot that stays", "5 6, 6 5, 7 7", 0, 1, 0},
		{"a swap beside a ring", "5 6, 1 2, 6 5, 2 3, 3 1", 0, 1, 3},
		{"a swap beside a ring of four", "1 2, 2 4, 3 1, 4 3, 5 6, 6 5", 0, 1, 4},
		{"two robots follow one another", "5 6, 6 7", 0, 0, 0},
		{"two robots follow one another, the second path first", "6 7, 5 6", 0, 0, 0},
		{"three robots follow one another", "5 6, 6 7, 7 8", 0, 0, 0},
		{"a swap beside two robots that follow one another", "5 6, 6 5, 4 3, 3 2", 0, 1, 0},
		{"a robot moves to where another one was a time before", "5 6 6, 4 4 5", 1, 0, 0},
		{"an exchange in two steps", "5 6 7, 7 7 5", 0, 0, 0},
		{"an exchange by way of a third cell", "5 7 6, 6 5 5", 0, 0, 0},
		{"a swap at the time before", "5 6 6, 6 5 5", 1, 0, 0},
		{"a swap at the time after", "5 5 6, 6 6 5", 0, 0, 0},
		{"a swap at the last time", "5 5 6, 6 6 5", 1, 1, 0},
		{"a swap at each time, the first one", "5 6 5, 6 5 6", 0, 1, 0},
		{"a swap at each time, the second one", "5 6 5, 6 5 6", 1, 1, 0},
		{"past the last swap", "5 6 5, 6 5 6", 2, 0, 0},
		{"before the first swap", "5 6 5, 6 5 6", -1, 0, 0},
		{"the least time", "5 6, 6 5", math.MinInt, 0, 0},
		{"the greatest time", "5 6, 6 5", math.MaxInt, 0, 0},
		{"a shorter path beside a swap", "5 6, 6 5, 7", 0, 0, 0},
		{"a longer path beside a swap", "5 6, 6 5, 7 7 7", 0, 0, 0},
		{"a path without cells beside a swap", "5 6, 6 5,", 0, 0, 0},
		{"other paths meet at time t", "5 6, 6 5, 7 8, 7 9", 0, 0, 0},
		{"other paths meet at time t+1", "5 6, 6 5, 8 7, 9 7", 0, 0, 0},
		{"other paths met before", "5 5 6, 6 6 5, 7 8 8, 7 9 9", 1, 1, 0},
		{"other paths meet later", "5 6 6, 6 5 5, 8 8 7, 9 9 7", 0, 1, 0},
		{"a third path comes to a cell of a swap", "5 6, 6 5, 7 6", 0, 0, 0},
		{"a third path comes from a cell of a swap", "5 6, 6 5, 6 7", 0, 0, 0},
		{"two paths swap with the same one", "5 6, 6 5, 5 6", 0, 0, 0},
		{"the same robot staying twice", "5 5, 5 5", 0, 0, 0},
		{"a swap of negative numbers", "-1 -2, -2 -1", 0, 1, 0},
		{"a swap of -1 and 0", "-1 0, 0 -1", 0, 1, 0},
		{"a swap of the least and the greatest number", least + " " + most + ", " + most + " " + least, 0, 1, 0},
	}
}

func ringCases() []crossingCase {
	return []crossingCase{
		{"a ring of three", "1 2, 2 3, 3 1", 0, 0, 3},
		{"a ring of three, the other way round", "1 3, 2 1, 3 2", 0, 0, 3},
		{"a ring of four", "0 1, 1 3, 2 0, 3 2", 0, 0, 4},
		{"a ring of four, not in the order of the cells", "3 2, 0 1, 2 0, 1 3", 0, 0, 4},
		{"a ring of five", "1 2, 2 3, 3 4, 4 5, 5 1", 0, 0, 5},
		{"a ring of six", "1 4, 2 3, 3 6, 4 5, 5 2, 6 1", 0, 0, 6},
		{"a ring of MaxRobots", "0 1, 1 2, 2 3, 3 4, 4 5, 5 6, 6 7, 7 8, 8 9, 9 0", 0, 0, 10},
		{"a ring of MaxRobots, in another order", "0 3, 1 4, 2 5, 3 6, 4 7, 5 8, 6 9, 7 0, 8 1, 9 2", 0, 0, 10},
		{"MaxRobots+1 paths, of which ten are in a ring", "0 1, 1 2, 2 3, 3 4, 4 5, 5 6, 6 7, 7 8, 8 9, 9 0, 10 10", 0, 0, 0},
		{"a ring of MaxRobots+1", "0 1, 1 2, 2 3, 3 4, 4 5, 5 6, 6 7, 7 8, 8 9, 9 10, 10 0", 0, 0, 0},
		{"two rings of three", "1 2, 2 3, 3 1, 4 5, 5 6, 6 4", 0, 0, 6},
		{"two rings of three, in turn", "1 2, 4 5, 2 3, 5 6, 3 1, 6 4", 0, 0, 6},
		{"rings of three and four", "1 2, 2 3, 3 4, 4 1, 5 6, 6 7, 7 5", 0, 0, 7},
		{"two rings of five", "0 2, 1 3, 2 4, 3 5, 4 6, 5 7, 6 8, 7 9, 8 0, 9 1", 0, 0, 10},
		{"rings of four and six", "0 1, 1 3, 2 0, 3 2, 4 5, 5 6, 6 7, 7 8, 8 9, 9 4", 0, 0, 10},
		{"three rings of three and a robot that stays", "1 2, 2 3, 3 1, 4 5, 5 6, 6 4, 7 8, 8 9, 9 7, 0 0", 0, 0, 9},
		{"a ring beside two robots that stay", "1 2, 8 8, 2 3, 3 1, 9 9", 0, 0, 3},
		{"robots that stay", "1 1, 2 2, 3 3", 0, 0, 0},
		{"MaxRobots robots that stay", "0 0, 1 1, 2 2, 3 3, 4 4, 5 5, 6 6, 7 7, 8 8, 9 9", 0, 0, 0},
		{"a ring beside a robot that moves alone", "1 2, 2 3, 3 1, 4 5", 0, 0, 3},
		{"a ring beside two robots that follow one another", "1 2, 2 3, 3 1, 4 5, 5 6", 0, 0, 3},
		{"a ring beside two swaps", "1 2, 2 3, 3 1, 4 5, 5 4, 6 7, 7 6", 0, 2, 3},
		{"three robots that follow one another", "1 2, 2 3, 3 4", 0, 0, 0},
		{"four robots that follow one another", "3 4, 1 2, 4 5, 2 3", 0, 0, 0},
		{"MaxRobots robots that follow one another", "0 1, 1 2, 2 3, 3 4, 4 5, 5 6, 6 7, 7 8, 8 9, 9 10", 0, 0, 0},
		{"a ring that would close if a robot did not stay", "1 2, 2 3, 3 3", 0, 0, 0},
		{"a row that comes back to its second cell", "1 2, 2 3, 3 4, 4 2", 0, 0, 0},
		{"a ring in two steps", "1 2 2, 2 3 3, 4 4 1", 0, 0, 0},
		{"the time before a ring", "1 1 2, 2 2 3, 3 3 1", 0, 0, 0},
		{"the last time, which is that of a ring", "1 1 2, 2 2 3, 3 3 1", 1, 0, 3},
		{"the time after a ring", "1 2 2, 2 3 3, 3 1 1", 1, 0, 0},
		{"a ring at each time", "1 2 3, 2 3 1, 3 1 2", 1, 0, 3},
		{"past the last ring", "1 2 3, 2 3 1, 3 1 2", 2, 0, 0},
		{"before the first ring", "1 2 3, 2 3 1, 3 1 2", -1, 0, 0},
		{"the least time", "1 2, 2 3, 3 1", math.MinInt, 0, 0},
		{"the greatest time", "1 2, 2 3, 3 1", math.MaxInt, 0, 0},
		{"a shorter path beside a ring", "1 2, 2 3, 3 1, 7", 0, 0, 0},
		{"a longer path beside a ring", "1 2, 2 3, 3 1, 7 7 7", 0, 0, 0},
		{"a path without cells before a ring", ",1 2, 2 3, 3 1", 0, 0, 0},
		{"other paths meet at time t", "1 2, 2 3, 3 1, 7 8, 7 9", 0, 0, 0},
		{"other paths meet at time t+1", "1 2, 2 3, 3 1, 8 7, 9 7", 0, 0, 0},
		{"other paths met before", "1 1 2, 2 2 3, 3 3 1, 7 8 8, 7 9 9", 1, 0, 3},
		{"other paths meet later", "1 2 2, 2 3 3, 3 1 1, 8 8 7, 9 9 7", 0, 0, 3},
		{"a path comes to a cell of a ring", "1 2, 2 3, 3 1, 4 1", 0, 0, 0},
		{"a path comes from a cell of a ring", "1 2, 2 3, 3 1, 1 4", 0, 0, 0},
		{"the same ring twice", "1 2, 2 3, 3 1, 1 2, 2 3, 3 1", 0, 0, 0},
		{"a ring of negative numbers", "-1 -2, -2 -3, -3 -1", 0, 0, 3},
		{"a ring of numbers past any grid", "-1 64, 64 1000, 1000 -1", 0, 0, 3},
	}
}

func TestSwapsAndRingsTables(t *testing.T) {
	for _, c := range append(swapCases(), ringCases()...) {
		ways := pathsIn(t, c.ways)
		if swaps, rings := impl.SwapsAt(ways, c.time), impl.RingsAt(ways, c.time); swaps != c.swaps || rings != c.rings {
			t.Errorf("%s: %q has %d swaps and %d paths in rings at %d, want %d and %d", c.name, c.ways, swaps, rings, c.time, c.swaps, c.rings)
		}
		checkTimes(t, ways)
		// None of it depends on the order of the paths.
		slices.Reverse(ways)
		checkTimes(t, ways)
	}
}

// All lists of at most four paths over few cells, for one step and for two.
func TestCrossingsOfAllPaths(t *testing.T) {
	for _, c := range []struct{ count, length, least, most int }{
		{1, 2, -1, 1}, {2, 2, -1, 2}, {2, 3, 0, 2}, {2, 4, 0, 1}, {3, 2, 0, 3}, {3, 3, 0, 2}, {4, 2, 0, 3},
	} {
		for _, list := range listsFrom(c.least, c.most, c.count*c.length) {
			var ways []impl.Way
			for cells := range slices.Chunk(list, c.length) {
				ways = append(ways, impl.Way{Cells: cells})
			}
			checkTimes(t, ways)
		}
	}
}

// All arrangements of up to six robots in their own cells, one step after another arrangement.
func TestCrossingsOfAllOrders(t *testing.T) {
	for count := 1; count <= 6; count++ {
		seen := map[[2]int]bool{}
		to := make([]int, 0, count)
		var place func()
		place = func() {
			if len(to) == count {
				ways := make([]impl.Way, count)
				for i, c := range to {
					ways[i].Cells = []int{i, c}
				}
				checkTimes(t, ways)
				seen[[2]int{impl.SwapsAt(ways, 0), impl.RingsAt(ways, 0)}] = true
				return
			}
			for c := range count {
				if !slices.Contains(to, c) {
					to = append(to, c)
					place()
					to = to[:len(to)-1]
				}
			}
		}
		place()
		// Six robots, for example, are in 0 swaps with 0, 3, 4, 5 or 6 paths in rings, in 1 with 0, 3 or 4, in 2 with 0, or in 3 with 0.
		if want := []int{0, 1, 2, 3, 5, 7, 10}[count]; len(seen) != want {
			t.Errorf("%d robots have %d kinds of swaps and rings, want %d: %v", count, len(seen), want, seen)
		}
	}
}

// sums has all ways to write a number as a sum of parts in descending order.
func sums(n int, most int) [][]int {
	if n == 0 {
		return [][]int{nil}
	}
	var all [][]int
	for part := 1; part <= min(n, most); part++ {
		for _, rest := range sums(n-part, part) {
			all = append(all, append([]int{part}, rest...))
		}
	}
	return all
}

// crossing has paths of one step: circles of robots with the given sizes, and rows of robots that follow one another.
func crossing(circles []int, rows []int) []impl.Way {
	var ways []impl.Way
	first := 0
	for _, size := range circles {
		for i := range size {
			ways = append(ways, impl.Way{Cells: []int{first + i, first + (i+1)%size}})
		}
		first += size
	}
	for _, size := range rows {
		for i := range size {
			ways = append(ways, impl.Way{Cells: []int{first + i, first + i + 1}})
		}
		first += size + 1
	}
	return ways
}

// mixed has the paths in an order chosen at random, with other cells, and with cells before and after the step.
func mixed(s *numbers, ways []impl.Way) []impl.Way {
	names := make([]int, 30)
	for i := range names {
		names[i] = 1000*s.below(3) - 1000 + i
	}
	var result []impl.Way
	for i, w := range ways {
		cells := []int{5000 + i, names[w.Cells[0]], names[w.Cells[1]], 6000 + i}
		result = slices.Insert(result, s.below(i+1), impl.Way{Cells: cells})
	}
	return result
}

// All kinds of steps that up to MaxRobots robots can take without meeting: they are in circles and in rows.
func TestCrossingsOfAllKinds(t *testing.T) {
	s, kinds := numbers(12), 0
	for count := 1; count <= impl.MaxRobots; count++ {
		for inCircles := range count + 1 {
			for _, circles := range sums(inCircles, count) {
				swaps, rings := 0, 0
				for _, size := range circles {
					switch {
					case size == 2:
						swaps++
					case size > 2:
						rings += size
					}
				}
				for _, rows := range sums(count-inCircles, count) {
					ways := mixed(&s, crossing(circles, rows))
					if got, more := impl.SwapsAt(ways, 1), impl.RingsAt(ways, 1); got != swaps || more != rings || impl.MeetAt(ways, 1) {
						t.Errorf("%v has %d swaps and %d paths in rings, want %d and %d", ways, got, more, swaps, rings)
					}
					checkTimes(t, ways)
					kinds++
				}
			}
		}
	}
	if want := 2 + 5 + 10 + 20 + 36 + 65 + 110 + 185 + 300 + 481; kinds != want {
		t.Errorf("%d kinds of steps, want %d", kinds, want)
	}
}

// Paths chosen at random, with and without meetings, and with one change.
func TestCrossingsOfSomePaths(t *testing.T) {
	s := numbers(1212)
	swaps, rings, meets := 0, 0, 0
	for _, g := range wayGrids() {
		for _, a := range asksOn(&s, g, 1, 2, 5, 20) {
			ways := wander(&s, a)
			checkTimes(t, ways)
			for range 3 {
				checkTimes(t, spoiled(&s, ways, len(g.Cells)))
			}
			for time := range a.span {
				swaps += impl.SwapsAt(ways, time)
				rings += impl.RingsAt(ways, time)
				changed := cloneWays(ways)
				changed[s.below(len(ways))].Cells[time] = ways[s.below(len(ways))].Cells[time]
				if impl.MeetAt(changed, time) {
					meets++
				}
				checkTimes(t, changed)
			}
		}
	}
	if swaps < 300 || rings < 20 || meets < 300 {
		t.Errorf("only %d swaps, %d paths in rings and %d meetings", swaps, rings, meets)
	}
}

// checkCrossings checks at which times paths of known steps have which swaps and rings.
func checkCrossings(t *testing.T, name string, ways []impl.Way, span int, swaps int, rings int) {
	t.Helper()
	for time := range span {
		if !impl.LevelWays(ways, time) || impl.MeetAt(ways, time) || impl.SwapsAt(ways, time) != swaps || impl.RingsAt(ways, time) != rings {
			t.Errorf("%s: at %d there are %d swaps and %d paths in rings, want %d and %d", name, time, impl.SwapsAt(ways, time), impl.RingsAt(ways, time), swaps, rings)
		}
	}
	if impl.LevelWays(ways, span) || impl.LevelWays(ways, -1) {
		t.Errorf("%s: there is a step before or after the cells", name)
	}
	checkTimes(t, ways)
}

// MaxRobots paths for MaxSpan, and longer ones: these functions have no limit for the number of cells.
func TestCrossingsAtTheLimits(t *testing.T) {
	for _, span := range []int{impl.MaxSpan - 1, impl.MaxSpan, impl.MaxSpan + 1, 300} {
		var ring, swaps, row, waits []impl.Way
		for i := range impl.MaxRobots {
			var cells [4][]int
			for time := range span + 1 {
				cells[0] = append(cells[0], (i+time)%impl.MaxRobots)
				cells[1] = append(cells[1], i^time&1)
				cells[2] = append(cells[2], i+time)
				cells[3] = append(cells[3], i)
			}
			ring, swaps = append(ring, impl.Way{Cells: cells[0]}), append(swaps, impl.Way{Cells: cells[1]})
			row, waits = append(row, impl.Way{Cells: cells[2]}), append(waits, impl.Way{Cells: cells[3]})
		}
		checkCrossings(t, "a ring", ring, span, 0, impl.MaxRobots)
		checkCrossings(t, "swaps", swaps, span, impl.MaxRobots/2, 0)
		checkCrossings(t, "a row", row, span, 0, 0)
		checkCrossings(t, "robots that stay", waits, span, 0, 0)
		for _, ways := range [][]impl.Way{ring, swaps, row, waits} {
			more := append(cloneWays(ways), impl.Way{Cells: slices.Repeat([]int{-1}, span+1)})
			for time := range span {
				if impl.LevelWays(more, time) || impl.MeetAt(more, time) || impl.SwapsAt(more, time) != 0 || impl.RingsAt(more, time) != 0 {
					t.Errorf("MaxRobots+1 paths at %d are level, or have crossings: %v", time, more)
				}
			}
		}
	}
}
