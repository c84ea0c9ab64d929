package reduce_test

import (
	"testing"

	"strata/api"
	"strata/bench"
)

// TestRoom: with as many blocks free as W4 says no reduction is refused for room, whatever the blocks and the budget. W4.
func TestRoom(t *testing.T) {
	r := dice{30}
	for n := range 10 {
		table := r.Table(n)
		for _, g := range []graph{tree(n, table), r.puffed(graphOf(bench.Canon(n, table)), 40), r.wild(n, 20)} {
			for _, c := range []struct{ k, free int }{{1, 64}, {1, 150}, {1, 3000}, {2, 128}, {5, 700}} {
				b := stand{bench.MountSmall(t, bench.Holds(t, c.k, arcs(g.tapes())...), c.free, 1000+100*(len(g.arcs())+2))}
				b.run(c, g.canon())
			}
		}
	}
}

// TestTraffic: with the least purse a reduction writes and reads no more than some times what its tapes have, though a level has many times what the purse holds; and it never needs much more room than they do. W4.
func TestTraffic(t *testing.T) {
	r := dice{31}
	const n = 13
	table := r.Table(n)
	for _, g := range []graph{tree(n, table), r.shuffled(tree(n, table))} {
		was := bench.Holds(t, 1, arcs(g.tapes())...)
		b := mount(t, was, 64)
		b.run("traffic", bench.Canon(n, table))
		size := len(g.arcs())
		if n := b.Disk().Counts(); n.Most-bench.BlocksIn(was) > 4*size || n.Appends > 12*size || n.Reads > 12*size {
			t.Errorf("%d arcs: %+v", size, n)
		}
	}
}

// TestNoMoreThanThePurse: what a call takes out is within what is free, and it is as much that it uses it; behind it all is back. G7, G10.
func TestNoMoreThanThePurse(t *testing.T) {
	r := dice{32}
	g := tree(7, r.Table(7))
	for _, k := range []int{1, 2, 9, 100} {
		b := lie(t, k, g)
		b.run(k, g.canon())
		if peak := b.Purse().Peak() - b.Hand; peak <= 24*k || peak > api.LeastK*k {
			t.Errorf("K %d: peak %d", k, peak)
		}
	}
}

// fan is a diagram over n levels of which a row has all nodes that a reduction holds at one time: a tree down to that row, from which the arcs go as the dice say to a few nodes at the bottom, that wait for them all the way up.
func (r *dice) fan(n, row int) graph {
	g := tree(row+1, make([]bool, 2<<row))
	g.n = n
	var below []uint64
	for i := range 4 {
		p := uint64(bench.At(n-1, i))
		g.kids[p] = [2]uint64{truth(i & 1), truth(i >> 1)}
		below = append(below, p)
	}
	for i := range 1 << row {
		g.kids[uint64(bench.At(row, i))] = [2]uint64{below[r.Below(4)], below[r.Below(4)]}
	}
	return g.tidy()
}

// TestWhatWaitsIsOnTheDisk: the nodes of a level, and what waits for their parents, are many times what the purse holds, so all but that must be on the disk meanwhile; with a purse that holds them nothing but the file is written, and each block is read once (the last one of the outer tape twice). G10.
func TestWhatWaitsIsOnTheDisk(t *testing.T) {
	r := dice{33}
	const row = 9
	for _, g := range []graph{r.fan(row+2, row), tree(row+1, r.Table(row+1))} {
		want := g.canon()
		was := bench.Holds(t, 1, arcs(g.tapes())...)
		b := mount(t, was, 64)
		b.run("with the least purse", want)
		if used := b.Disk().Counts().Most - bench.BlocksIn(was); used < 1<<row-64 {
			t.Errorf("at most %d blocks are used, where %d nodes wait", used, 1<<row)
		}
		b = mount(t, was, 1<<20)
		b.run("with room for all", want)
		if n := b.Disk().Counts(); n.Appends != len(want) || n.Reads != len(g.arcs())+2 {
			t.Errorf("with room in the purse for all: %+v", n)
		}
	}
}
