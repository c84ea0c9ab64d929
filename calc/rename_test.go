package calc_test

import (
	"slices"
	"testing"

	"strata/api"
	"strata/bench"
)

// TestRenameByEachOrder of few levels, of functions that hang on all of them, on some, on none. P10.1.
func TestRenameByEachOrder(t *testing.T) {
	r := bench.Dice(70)
	for n := range 6 {
		x := trioOf(n, r.Table(n), r.Thin(n), never(n))
		b := bench.Lie(t, 1+n%2, x.tapes()...)
		bench.Orders(n, func(to []int) {
			run(b, x.rename(0, to))
			run(b, x.rename(1, to))
			if to == nil || slices.IsSorted(to[1:]) {
				run(b, x.rename(2, to))
			}
		})
	}
}

// spread is a function over n levels that hangs on these alone, by a table over as many.
func spread(n int, levels []int, table []bool) []bool {
	return bench.TableOf(n, func(x int) bool {
		y := 0
		for i, l := range levels {
			y = bench.With(len(levels), y, i, bench.Bit(n, x, l))
		}
		return table[y]
	})
}

// TestRenameTogetherAndApart: a function of three levels, which stand apart or together, is brought to any three, in any order; the other levels go to wherever, also to one of these. P10.1.
func TestRenameTogetherAndApart(t *testing.T) {
	r := bench.Dice(71)
	const n = 6
	sets := [][]int{{0, 1, 2}, {3, 4, 5}, {0, 3, 5}, {1, 2, 5}, {0, 2, 4}}
	for _, from := range sets {
		x := trioOf(n, spread(n, from, bench.Number(3, 0xd8)), spread(n, from, bench.Number(3, 0x96)), never(n))
		b := bench.Lie(t, 1, x.tapes()...)
		for _, goals := range sets {
			bench.Orders(3, func(order []int) {
				to := make([]int, n)
				for l := range to {
					to[l] = r.Below(n)
				}
				for i, l := range from {
					to[l] = goals[order[i]]
				}
				run(b, x.rename(0, to))
				run(b, x.rename(1, to))
			})
		}
	}
}

// TestRenameOntoOne: two levels with one goal, where f hangs on both, on one, on the other, on none. P10.1.
func TestRenameOntoOne(t *testing.T) {
	const n = 4
	and := bench.Number(2, 8)
	for _, c := range []struct {
		levels []int
		want   api.Errno
	}{{[]int{1, 3}, api.ErrLevel}, {[]int{0, 1}, api.OK}, {[]int{2, 3}, api.OK}, {[]int{0, 2}, api.OK}} {
		x := trioOf(n, spread(n, c.levels, and), never(n), never(n))
		b := bench.Lie(t, 2, x.tapes()...)
		for _, goal := range []int{1, 3} {
			to := []int{0, goal, 2, goal}
			d := x.rename(0, to)
			if c.want == api.OK {
				run(b, d)
				continue
			}
			b.Is(d.what, d.do(b.Desk, "out"), c.want)
			b.AsBefore(d.what)
		}
		run(b, x.rename(1, []int{2, 2, 2, 2}))
	}
}
