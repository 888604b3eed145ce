package impl

import (
	"slices"
	"testing"
)

// checkTaken takes all values from a heap and checks that they are those that were put into it, the smallest ranks first.
func checkTaken(t *testing.T, h *heap[int, int], ranks []int) {
	t.Helper()
	var taken, values []int
	for !h.empty() {
		rank, value := h.take()
		if ranks[value] != rank {
			t.Fatalf("ranks %v: value %d has the rank %d", ranks, value, rank)
		}
		taken, values = append(taken, rank), append(values, value)
	}
	slices.Sort(values)
	if !slices.IsSorted(taken) || len(values) != len(ranks) || len(slices.Compact(values)) != len(ranks) {
		t.Errorf("ranks %v are taken as %v", ranks, taken)
	}
}

// The results of Cheapest do not depend on the order of the heap, but its time does.
func TestHeapOrder(t *testing.T) {
	for length := range 7 {
		lists := 1
		for range length {
			lists *= length
		}
		for list := range lists {
			var h heap[int, int]
			var ranks []int
			for value, rest := 0, list; value < length; value, rest = value+1, rest/length {
				ranks = append(ranks, rest%length-1)
				h.put(ranks[value], value)
			}
			checkTaken(t, &h, ranks)
		}
	}
}

// Values are put into the heap between others that are taken from it.
func TestHeapInTurns(t *testing.T) {
	var h heap[int, int]
	var waiting []int
	for i := range 3000 {
		rank := i * 7919 % 1009
		h.put(rank, i)
		waiting = append(waiting, rank)
		if i%3 == 2 {
			rank, _ := h.take()
			if least := slices.Min(waiting); rank != least {
				t.Fatalf("after %d values, the rank %d is taken before %d", i+1, rank, least)
			}
			place := slices.Index(waiting, rank)
			waiting = slices.Delete(waiting, place, place+1)
		}
	}
	for len(waiting) > 0 {
		rank, _ := h.take()
		place := slices.Index(waiting, rank)
		if rank != slices.Min(waiting) {
			t.Fatalf("the rank %d is taken before %d", rank, slices.Min(waiting))
		}
		waiting = slices.Delete(waiting, place, place+1)
	}
	if !h.empty() {
		t.Error("the heap is not empty at the end")
	}
}
