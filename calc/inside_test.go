package calc

import (
	"slices"
	"testing"

	"strata/bench"
)

// rises is how long the longest rising choice of a list is, by trying each.
func rises(list []int) int {
	most := 0
	for set := range 1 << len(list) {
		var some []int
		for i, x := range list {
			if set>>i&1 == 1 {
				some = append(some, x)
			}
		}
		if slices.IsSorted(some) {
			most = max(most, len(some))
		}
	}
	return most
}

// TestMoves: they bring each order of few numbers into their own, and there are no more of them than must be. What stands aside is told right.
func TestMoves(t *testing.T) {
	for n := range 7 {
		bench.Orders(n, func(list []int) {
			all := moves(list)
			if len(all) != n-rises(list) {
				t.Fatalf("%v: the moves %v, where %d are enough", list, all, n-rises(list))
			}
			row := slices.Clone(list)
			for _, m := range all {
				x := row[m.from]
				next := slices.Insert(slices.Delete(slices.Clone(row), m.from, m.from+1), m.to, x)
				for place, y := range row {
					if place != m.from && next[m.aside(place)] != y {
						t.Fatalf("%v: %v: place %d is moved to %d", row, m, place, m.aside(place))
					}
				}
				row = next
			}
			if !slices.IsSorted(row) {
				t.Fatalf("%v: the moves %v make %v", list, all, row)
			}
		})
	}
}

// TestLongestRise of lists whose numbers have others between them.
func TestLongestRise(t *testing.T) {
	for _, list := range [][]int{nil, {5}, {9, 4}, {40, 7, 12, 3, 30, 31, 1}, {1, 100, 2, 99, 3, 98, 4}} {
		got := longestRise(list)
		at := -1
		for _, x := range got {
			next := slices.Index(list, x)
			if next <= at {
				t.Errorf("%v: %v are not left of it", list, got)
			}
			at = next
		}
		if !slices.IsSorted(got) || len(got) != rises(list) {
			t.Errorf("%v: %v", list, got)
		}
	}
}
