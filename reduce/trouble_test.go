package reduce_test

import (
	"slices"
	"testing"

	"strata/api"
	"strata/bench"
	"strata/recs"
	"strata/reduce"
	"strata/tape"
)

// plotOf is a reduction of two tapes.
func plotOf(what string, k int, tapes []bench.Strip) bench.Plot {
	return bench.Plot{What: what, K: k, Tapes: tapes, Do: func(desk *tape.Desk) api.Errno { return reduce.Reduce(desk, "a", "out") }}
}

// plots go through all that a reduction may come to: in memory and with runs of each of its queues, with nodes that are passed over and nodes that become one, with a file and without a node; and arcs that are seen not to be sound when the file has been begun.
func plots() []bench.Plot {
	r := dice{20}
	const n = 6
	full, thin := r.Table(n), r.Thin(n)
	var out []bench.Plot
	add := func(what string, k int, g graph) {
		p := plotOf(what, k, arcs(g.tapes()))
		p.Makes = []bench.Strip{strip("out", api.KindNodes, g.canon())}
		out = append(out, p)
	}
	add("a tree", 1, tree(n, full))
	add("a puffed one", 1, r.puffed(graphOf(bench.Canon(n, full)), 60))
	add("a thin tree", 2, r.shuffled(tree(n, thin)))
	add("a wild one", 3, r.wild(n, 9))
	add("a tree of a leaf", 1, tree(n, make([]bool, 1<<n)))
	add("a tree in memory", 20, tree(n, full))
	add("a leaf", 1, graph{n, uint64(T), nil})
	inner, outer := tree(n, full).tapes()
	late := slices.Clone(outer)
	late[len(late)-1] = bench.End(n, 0, 1<<n)
	for _, p := range []bench.Plot{plotOf("a node too many in the end", 1, arcs(inner, late)), plotOf("an arc that is missing", 2, arcs(inner[1:], outer))} {
		p.Want = api.ErrArcs
		out = append(out, p)
	}
	return out
}

// TestTroubleAtEachCall: a fault, or the power off, at each numbered call. G7, As before.
func TestTroubleAtEachCall(t *testing.T) { bench.EachCall(t, plots()) }

// TestBehindAFault: from the first refusal on nothing is asked but Deletes. G7.
func TestBehindAFault(t *testing.T) { bench.BehindAFault(t, 7, plots()) }

// TestFullDisk: each number of free blocks from none to enough. G7.
func TestFullDisk(t *testing.T) { bench.FullDisk(t, plots()) }

// TestBadBlocks: each block of each tape spoilt, of another kind, or none. All blocks are needed, so the call tells it. G8, P4.17.
func TestBadBlocks(t *testing.T) {
	for _, told := range bench.BadBlocks(t, plots()) {
		if told[api.OK] > 0 {
			t.Errorf("told %v", told)
		}
	}
}

// TestEachBit: each bit of each block of small tapes turned. G8.
func TestEachBit(t *testing.T) {
	inner, outer := bench.SmallArcs()
	for _, k := range []int{1, 3} {
		was := bench.Holds(t, k, arcs(inner, outer)...)
		for _, s := range arcs(inner, outer) {
			for i := range (len(s.List) + k - 1) / k {
				for bit := range 8 * was.Block {
					b := mount(t, was, api.LeastK*k)
					b.Disk().Spoil(s.Name, i, bit)
					b.Was = b.Disk().State()
					b.Is([]any{k, s.Name, i, bit}, reduce.Reduce(b.Desk, "a", "out"), api.ErrSpoilt)
					b.AsBefore(bit)
				}
			}
		}
	}
}

// TestShortBlocks: a tape of which a block that is not the last holds fewer records than it must. P4.11, G8.
func TestShortBlocks(t *testing.T) {
	inner, outer := bench.SmallArcs()
	was := bench.Holds(t, 2, arcs(inner, outer)...)
	for _, s := range arcs(inner, outer) {
		for i := range 2 {
			block, _ := recs.Encode(s.Kind, i, s.List[2*i:2*i+1], was.Block)
			b := mount(t, bench.InPlace(was, s.Name, i, block), 128)
			b.Is(s.Name, reduce.Reduce(b.Desk, "a", "out"), api.ErrForm)
			b.AsBefore(s.Name)
		}
	}
}
