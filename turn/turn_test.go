package turn_test

import (
	"math"
	"slices"
	"testing"

	"strata/api"
	"strata/bench"
	"strata/turn"
)

// TestSmallFunctions: each function over few levels: Swap and Cost at every level, Reorder by every permutation, Best. P12.1 to P12.4.
func TestSmallFunctions(t *testing.T) {
	t.Parallel()
	for n := range 4 {
		for bits := range 1 << (1 << n) {
			g := group{full(n, bench.Number(n, bits))}
			b := bench.Lie(t, 1+bits%3, g.tapes()...)
			for l := range n - 1 {
				swaps(b, "f", l, g[0].swap(l))
			}
			bench.Orders(n, func(from []int) { g.reorders(b, from) })
			for l := range n {
				costs(b, g.files(), l, g.cost(l))
			}
			best, _ := g.best()
			bests(b, g.files(), best)
		}
	}
}

// TestEachOrder: Reorder of several files by every permutation of few levels. P12.2.
func TestEachOrder(t *testing.T) {
	t.Parallel()
	r := bench.Dice(1)
	for n := range 6 {
		g := anyGroup(&r, n)
		b := bench.Lie(t, 1+n%2, g.tapes()...)
		bench.Orders(n, func(from []int) { g.reorders(b, from) })
	}
}

// TestUnlikeBlocksAndBudgets: the same files and the same numbers whatever the blocks are, and whatever is in the purse, the least among them. P12.1 to P12.4, G9.
func TestUnlikeBlocksAndBudgets(t *testing.T) {
	t.Parallel()
	for n := range 7 {
		for _, c := range []struct{ k, more int }{{1, 0}, {1, 1}, {1, 700}, {2, 0}, {3, 50}, {7, 0}, {31, 1}, {2047, 0}} {
			if n > 3 && c.k > 100 || n > 5 && c.k > 3 { // all is in one block long since
				continue
			}
			r := bench.Dice(n) // the same functions for each
			g := anyGroup(&r, n)
			g.runAll(bench.Mount(t, bench.Holds(t, c.k, g.tapes()...), api.LeastK*c.k+c.more), &r)
		}
	}
}

// TestGreatPurse: a budget that no memory has. G1, G10.
func TestGreatPurse(t *testing.T) {
	t.Parallel()
	r := bench.Dice(8)
	for _, k := range []int{1, 2, 2047} {
		g := anyGroup(&r, 4)
		g.runAll(bench.Mount(t, bench.Holds(t, k, g.tapes()...), math.MaxInt-5), &r)
	}
}

// TestLargerFunctions: levels with more nodes than the least purse holds. P12.1 to P12.4.
func TestLargerFunctions(t *testing.T) {
	t.Parallel()
	r := bench.Dice(50)
	const n = 10
	g := group{full(n, r.Table(n))}
	for _, k := range []int{1, 5} {
		b := bench.Lie(t, k, g.tapes()...)
		for _, l := range []int{0, 4, 7, 8} {
			swaps(b, "f", l, g[0].swap(l))
		}
		g.reorders(b, r.Some(n, n))
		costs(b, g.files(), 5, g.cost(5))
	}
	g[0].table = bench.TableOf(n, func(x int) bool { return x>>5&x > 3 })
	best, _ := g.best()
	bests(bench.Lie(t, 3, g.tapes()...), g.files(), best)
}

// TestListsOfFiles: of none, of one, of several, of one that stands several times, of two of one function. P12.2 to P12.4.
func TestListsOfFiles(t *testing.T) {
	r := bench.Dice(2)
	for n := 1; n < 6; n++ {
		g := anyGroup(&r, n)
		b := bench.Lie(t, 2, g.tapes()...)
		for _, places := range [][]int{{0}, {1}, {2}, {0, 0}, {0, 4}, {4, 0, 1}, {2, 2, 2}, {1, 3, 1, 1}, {0, 1, 2, 3, 4}, {3, 2, 0}} {
			var some group
			var files, outs []string
			var made []bench.Strip
			from := r.Some(n, n)
			for i, place := range places {
				some = append(some, g[place])
				files = append(files, g.files()[place])
				outs = append(outs, names('p', 9)[i])
				made = append(made, nodeFile(outs[i], g[place].reorder(from).list()))
			}
			level := r.Below(n)
			costs(b, files, level, some.cost(level))
			best, _ := some.best()
			bests(b, files, best)
			b.Is(files, turn.Reorder(b.Desk, files, from, outs), api.OK)
			b.Made(files, made...)
			for _, out := range outs {
				b.Disk().Delete(out)
			}
		}
		b.Still("no files", func() { b.Is("no files", turn.Reorder(b.Desk, nil, r.Some(n, n), []string{}), api.OK) })
		b.AsBefore("no files")
	}
}

// TestOutsInAnyOrder: each file that is made is that of its own place, whatever the names are. P12.2.
func TestOutsInAnyOrder(t *testing.T) {
	r := bench.Dice(3)
	g := anyGroup(&r, 4)
	b := bench.Lie(t, 1, g.tapes()...)
	from := []int{2, 0, 3, 1}
	b.Is("Reorder", turn.Reorder(b.Desk, []string{"g", "f", "h"}, from, []string{"z", "y", "a"}), api.OK)
	b.Made("Reorder", nodeFile("a", g[2].reorder(from).list()), nodeFile("y", g[0].reorder(from).list()), nodeFile("z", g[1].reorder(from).list()))
}

// TestTies: where the level stands stays best, if it is; else it is the least of the best places. P12.4.
func TestTies(t *testing.T) {
	t.Parallel()
	r := bench.Dice(4)
	var met ties
	for range 150 {
		n := 3 + r.Below(3)
		g := group{full(n, r.Thin(n)), full(n, r.Table(n))}[r.Below(2):]
		best, some := g.best()
		met.stayed += some.stayed
		met.first += some.first
		bests(bench.Lie(t, 2, g.tapes()...), g.files(), best)
	}
	if met.stayed < 30 || met.first < 30 {
		t.Errorf("too few ties: %+v", met)
	}
}

// TestLevelsWithoutNodes: many above, between and below those that have some. P12.1 to P12.4.
func TestLevelsWithoutNodes(t *testing.T) {
	t.Parallel()
	r := bench.Dice(5)
	for range 25 {
		n, m := 6+r.Below(58), 1+r.Below(4)
		g := wide(&r, n, m, 3)
		b := bench.Lie(t, 1+r.Below(4), g.tapes()...)
		for l := range n - 1 {
			if n < 20 || slices.Contains(g[0].levels, l) {
				swaps(b, "f", l, g[0].reorder(neighbours(n, l)))
			}
		}
		g.reorders(b, r.Some(n, n))
		for _, level := range []int{0, n - 1, r.Below(n), g[0].levels[0], g[1].levels[m-1]} {
			costs(b, g.files(), level, g.cost(level))
		}
	}
}

// TestAsManyLevelsAsAreSifted: Cost and Best over 64 levels; over 65 they are refused, Swap and Reorder are not. P12.1 to P12.4.
func TestAsManyLevelsAsAreSifted(t *testing.T) {
	t.Parallel()
	r := bench.Dice(6)
	for _, m := range []int{0, 1, 5} {
		g := wide(&r, api.MaxSift, m, 2)
		b := bench.Lie(t, 3, g.tapes()...)
		for _, level := range []int{0, 31, 63} {
			costs(b, g.files(), level, g.cost(level))
		}
		best, _ := g.best()
		bests(b, g.files(), best)
		g.reorders(b, best)
		over := wide(&r, api.MaxSift+1, m, 2)
		b = bench.Lie(t, 3, over.tapes()...)
		if list, e := turn.Cost(b.Desk, over.files(), 64); len(list) > 0 || e != api.ErrMany {
			t.Errorf("Cost over 65 levels: %v, %d", list, e)
		}
		if list, e := turn.Best(b.Desk, over.files()); len(list) > 0 || e != api.ErrMany {
			t.Errorf("Best over 65 levels: %v, %d", list, e)
		}
		b.AsBefore("over 65 levels")
		swaps(b, "f", 63, over[0].reorder(neighbours(65, 63)))
		over.reorders(b, r.Some(65, 65))
	}
}

// TestEveryLevelCounts: Best over 64 levels of a function that hangs on each of them: pairs that are joined, some of which stand apart at first. P12.4.
func TestEveryLevelCounts(t *testing.T) {
	t.Parallel()
	const n = api.MaxSift
	b := bench.Lie(t, 7, bench.Files(pairs(n))...)
	bests(b, []string{"f"}, upTo(n))
	from := upTo(n) // one level of a pair is four places away from the other
	from = putIn(putIn(from, 1, 5), 40, 36)
	b = bench.Lie(t, 7, bench.Files(pairs(n))...)
	b.Is("Reorder", turn.Reorder(b.Desk, []string{"f"}, from, []string{"g"}), api.OK)
	b.Was = b.Disk().State()
	order, e := turn.Best(b.Desk, []string{"g"})
	b.Is("Best", e, api.OK)
	b.AsBefore("Best")
	b.Is("Reorder", turn.Reorder(b.Desk, []string{"g"}, order, []string{"h"}), api.OK)
	if got := len(b.Records("h", api.KindNodes)); got != n+1 {
		t.Errorf("%v: it has %d records, where %d are enough", order, got, n+1)
	}
}

// pairs is the node file of: level 0 and 1, or 2 and 3, or 4 and 5, and so on.
func pairs(n int) []api.Rec {
	next := F
	var list []api.Rec
	for l := n - 2; l >= 0; l -= 2 {
		upper, lower := bench.At(l, 0), bench.At(l+1, 0)
		list = append(list, api.Rec{uint64(lower), uint64(next), uint64(T)}, api.Rec{uint64(upper), uint64(next), uint64(lower)})
		next = upper
	}
	return append(list, bench.End(n, next, len(list)))
}

// most is the number of levels of the tests of the edge.
const most = api.MaxVars

// TestMostLevels: over as many levels as there may be, with nodes at the first, at the last, in the midst, or at none of them. P12.1, P12.2.
func TestMostLevels(t *testing.T) {
	t.Parallel()
	r := bench.Dice(7)
	down := upTo(most)
	slices.Reverse(down)
	for _, levels := range [][]int{nil, {0}, {most - 1}, {0, most - 1}, {1, 40000, most - 2}, {most - 3, most - 2, most - 1}} {
		g := group{{most, levels, r.Table(len(levels))}, {most, levels, r.Table(len(levels))}}
		b := bench.Lie(t, 1, g.tapes()...)
		for _, l := range []int{0, 1, 39999, most - 3, most - 2} {
			swaps(b, "f", l, g[0].reorder(neighbours(most, l)))
		}
		for _, from := range [][]int{upTo(most), down, r.Some(most, most), putIn(upTo(most), most-1, 0)} {
			g.reorders(b, from)
		}
		b.Is("behind the last", turn.Swap(b.Desk, "f", most-1, "out"), api.ErrLevel)
		b.AsBefore("behind the last")
	}
}

// TestFewLevels: over none and over one there is nothing to swap, and one order. P12.1 to P12.4.
func TestFewLevels(t *testing.T) {
	for n := range 2 {
		for bits := range 1 << (1 << n) {
			g := group{full(n, bench.Number(n, bits)), full(n, bench.Number(n, bits))}
			b := bench.Lie(t, 1, g.tapes()...)
			for _, level := range []int{math.MinInt, -1, 0, 1, math.MaxInt} {
				b.Is([]any{"Swap", n, level}, turn.Swap(b.Desk, "f", level, "out"), api.ErrLevel)
				list, e := turn.Cost(b.Desk, g.files(), level)
				switch {
				case n == 1 && level == 0 && (e != api.OK || !slices.Equal(list, []int{2 * g[0].nodes()})):
					t.Errorf("Cost: %v, %d", list, e)
				case (n == 0 || level != 0) && (e != api.ErrLevel || len(list) > 0):
					t.Errorf("Cost at %d of %d: %v, %d", level, n, list, e)
				}
				b.AsBefore(level)
			}
			bests(b, g.files(), upTo(n))
			g.reorders(b, upTo(n))
		}
	}
}

// TestListsStay: what is handed in is neither changed nor kept, its spare room too; what is answered is new memory. G3.
func TestListsStay(t *testing.T) {
	r := bench.Dice(9)
	const n = 5
	g := anyGroup(&r, n)
	b := bench.Lie(t, 1, g.tapes()...)
	from := append(r.Some(n, n), 77, 78, 79)[:n]
	files := append(g.files(), "spare", "room")[:len(g)]
	outs := append(names('p', len(g)), "spare", "room")[:len(g)]
	was, in, out := slices.Clone(from[:n+3]), slices.Clone(files[:len(g)+2]), slices.Clone(outs[:len(g)+2])
	b.Is("Reorder", turn.Reorder(b.Desk, files, from, outs), api.OK)
	first, e := turn.Cost(b.Desk, files, 2)
	b.Is("Cost", e, api.OK)
	order, e := turn.Best(b.Desk, files)
	b.Is("Best", e, api.OK)
	if !slices.Equal(was, from[:n+3]) || !slices.Equal(in, files[:len(g)+2]) || !slices.Equal(out, outs[:len(g)+2]) {
		t.Errorf("the lists are %v, %v, %v", from[:n+3], files[:len(g)+2], outs[:len(g)+2])
	}
	for _, list := range [][]int{first, order} {
		for i := range list[:cap(list)] {
			list[:cap(list)][i] = -7
		}
	}
	again, _ := turn.Cost(b.Desk, files, 2)
	best, _ := g.best()
	once, _ := turn.Best(b.Desk, files)
	if !slices.Equal(again, g.cost(2)) || !slices.Equal(once, best) {
		t.Errorf("behind a change of what was answered: %v, %v", again, once)
	}
}
