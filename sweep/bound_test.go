package sweep_test

import (
	"slices"
	"testing"

	"strata/api"
	"strata/bench"
	"strata/sweep"
)

// TestRoom: with as many blocks free as W4 says no sweep is refused for room, whatever the blocks and the budget. W4.
func TestRoom(t *testing.T) {
	r := dice{30}
	for n := range 8 {
		x := trioOf(n, r.Table(n), r.Table(n), r.Thin(n))
		for _, c := range []struct{ k, free int }{{1, 64}, {1, 150}, {1, 3000}, {2, 128}, {5, 700}} {
			was := bench.Holds(t, c.k, x.tapes()...)
			for _, j := range x.jobs(&r) {
				b := stand{bench.MountSmall(t, was, c.free, 1000+100*j.product)}
				b.run(j)
			}
		}
	}
}

// steep is a node file that is in rows: a wide top, of which the arcs all go to few nodes; below it a long stretch of few nodes a level, each with one arc to the next level and one far down; a bottom.
func steep(top, long int) []api.Rec {
	p := func(level, id int) uint64 { return uint64(bench.At(level, id)) }
	n := top + long + 3
	few := 2
	for few*(few-1) < 1<<(top-1) {
		few++
	}
	var list []api.Rec
	// The bottom: all pairs of what is below it.
	below := []uint64{uint64(F), uint64(T)}
	for l := n - 1; l >= n-3; l-- {
		var row []api.Rec
		for _, low := range below {
			for _, high := range below {
				if low != high && len(row) < few {
					row = append(row, api.Rec{p(l, len(row)), low, high})
				}
			}
		}
		list = append(list, row...)
		for _, r := range row {
			below = append(below, r[0])
		}
		slices.Sort(below)
	}
	for l := n - 4; l >= top; l-- {
		for i := range few {
			list = append(list, api.Rec{p(l, i), p(l+1, i), p(n-1, i%2)})
		}
	}
	var row []api.Rec
	for low := range few {
		for high := range few {
			if low != high && len(row) < 1<<(top-1) {
				row = append(row, api.Rec{p(top-1, len(row)), p(top, low), p(top, high)})
			}
		}
	}
	list = append(list, row...)
	for l := top - 2; l >= 0; l-- {
		for i := range 1 << l {
			list = append(list, api.Rec{p(l, i), p(l+1, 2*i), p(l+1, 2*i+1)})
		}
	}
	return append(list, bench.End(n, 0, len(list)))
}

// TestFixOfManyLevels: literals at a long stretch below a wide level: who waits for what becomes of a node there does not wait anew at each of its levels. W4; and no more traffic than goes with the nodes.
func TestFixOfManyLevels(t *testing.T) {
	const top, long = 8, 120
	list := steep(top, long)
	d := diagramOf(list)
	for turn := range 3 {
		var lits []api.Lit
		for l := top; l < top+long; l++ {
			if turn == 2 && l%2 == 0 {
				continue
			}
			lits = append(lits, api.Lit{Level: l, Value: turn == 1 && l%17 == 3})
		}
		inner, outer := fixOf(d, lits)
		for _, c := range []struct{ k, free int }{{1, 64}, {1, 200}, {1, 2000}, {3, 192}} {
			was := bench.Holds(t, c.k, bench.Files(list)...)
			b := stand{bench.MountSmall(t, was, c.free, 1000+100*(len(list)+1))}
			b.Is("Fix", sweep.Fix(b.Desk, "f", lits, "out"), api.OK)
			b.made("Fix", "out", inner, outer)
			if n := b.Disk().Counts(); n.Most-bench.BlocksIn(was) > 30*len(list) || n.Appends > 100*len(list) {
				t.Errorf("turn %d, K %d, %d free: %d nodes, %+v", turn, c.k, c.free, len(list)-1, n)
			}
		}
	}
}

// TestNoMoreThanThePurse: what a call takes out is within what is free, and it is as much that it uses it; behind it all is back. G7, G10.
func TestNoMoreThanThePurse(t *testing.T) {
	r := dice{31}
	x := trioOf(7, r.Table(7), r.Table(7), r.Table(7))
	for _, k := range []int{1, 2, 9, 100} {
		was := bench.Holds(t, k, x.tapes()...)
		for _, j := range x.jobs(&r) {
			b := mount(t, was, api.LeastK*k)
			b.run(j)
			if peak := b.Purse().Peak() - b.Hand; j.nodes() > 0 && peak <= 8*k || peak > api.LeastK*k {
				t.Errorf("K %d: %s: peak %d", k, j.what, peak)
			}
			b.Is("Arcs", third(sweep.Arcs(b.Desk, "out")), api.OK)
			b.Out("Arcs")
		}
	}
}

// TestWhatWaitsIsOnTheDisk: the states of a level are many times what the purse holds, so all but that must be on the disk meanwhile; with a purse that holds them nothing but the two tapes is written. G10.
func TestWhatWaitsIsOnTheDisk(t *testing.T) {
	const n = 13
	r := dice{32}
	x := trioOf(n, r.Table(n), r.Table(n), r.Thin(n))
	for _, j := range []job{x.two(api.OpXor, 0, 1), x.three(0, 1, 0), x.fix(0, []api.Lit{{Level: 0}}), x.quant(0, 0, true), x.swap(0, 4)} {
		width := map[uint64]int{}
		most := 0
		for _, a := range j.inner {
			width[a[0]/ids] = max(width[a[0]/ids], int(a[0]%ids)+1)
			most = max(most, width[a[0]/ids])
		}
		if most < 200 {
			t.Fatalf("%s: the widest level has %d nodes", j.what, most)
		}
		was := bench.Holds(t, 1, x.tapes()...)
		b := mount(t, was, 64)
		b.run(j)
		if used := b.Disk().Counts().Most - bench.BlocksIn(was); used < most-64 {
			t.Errorf("%s: at most %d blocks are used, where %d states wait", j.what, used, most)
		}
	}
	j := x.two(api.OpXor, 0, 1)
	was := bench.Holds(t, 1, x.tapes()...)
	b := mount(t, was, 1<<20)
	b.run(j)
	if n := b.Disk().Counts(); n.Appends != len(j.inner)+len(j.outer) || n.Reads > len(x.lists[0])+len(x.lists[1])+4 {
		t.Errorf("with room in the purse for all: %+v", n)
	}
}

// TestNamedTwice: a file that stands in several places is gone down once. P8.9.
func TestNamedTwice(t *testing.T) {
	r := dice{33}
	const n = 8
	x := trioOf(n, r.Table(n), r.Table(n), r.Table(n))
	for _, j := range []job{x.two(api.OpXor, 0, 0), x.three(0, 0, 0), x.quant(0, 3, true)} {
		b := mount(t, bench.Holds(t, 1, x.tapes()...), 1<<20)
		b.run(j)
		if reads := b.Disk().Counts().Reads; j.what[0] == 'T' && reads > len(x.lists[0])+4 {
			t.Errorf("%s: %d reads of %d blocks", j.what, reads, len(x.lists[0]))
		}
	}
}
