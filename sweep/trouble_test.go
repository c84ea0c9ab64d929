package sweep_test

import (
	"slices"
	"testing"

	"strata/api"
	"strata/bench"
	"strata/recs"
	"strata/sweep"
	"strata/tape"
)

// plotOf is a job over some tapes.
func plotOf(k int, tapes []bench.Strip, j job) bench.Plot {
	return bench.Plot{
		What: j.what, K: k, Tapes: tapes, Makes: bench.Arcs("out", j.inner, j.outer),
		Do: func(desk *tape.Desk) api.Errno { return j.do(desk, "out") },
	}
}

// plots go through all that they may come to: sweeps in memory and with runs, with states that are passed on and without, sorts of what they give.
func plots() []bench.Plot {
	r := dice{20}
	const n = 6
	x := trioOf(n, r.Table(n), r.Table(n), r.Thin(n))
	var out []bench.Plot
	for _, j := range []job{x.two(api.OpXor, 0, 1), x.three(2, 0, 1), x.fix(0, r.Lits(n, 2)), x.quant(0, 3, true), x.swap(1, 1)} {
		out = append(out, plotOf(1, x.tapes(), j))
	}
	for _, j := range []job{x.two(api.OpAnd, 0, 0), x.fix(1, r.Lits(n, 4)), x.quant(1, 0, false), x.swap(0, n-2)} {
		out = append(out, plotOf(3, x.tapes(), j))
	}
	for _, j := range []job{x.fix(1, r.Lits(n, n)), x.two(api.OpTrue, 0, 1)} {
		out = append(out, plotOf(20, x.tapes(), j))
	}
	out = append(out, longPlot())
	out = append(out, wrongPlots(x)...)
	return append(out, arcsPlots(x.two(api.OpOr, 0, 1))...)
}

// longPlot has more states that are passed on than memory holds.
func longPlot() bench.Plot {
	long := steep(4, 9)
	var lits []api.Lit
	for l := 4; l < 13; l++ {
		lits = append(lits, api.Lit{Level: l})
	}
	inner, outer := fixOf(diagramOf(long), lits)
	return plotOf(1, bench.Files(long), job{what: "Fix of many levels", inner: inner, outer: outer, do: func(k *tape.Desk, out string) api.Errno {
		return sweep.Fix(k, "f", lits, out)
	}})
}

// wrongPlots are sweeps over a file that is in rows, of which a node is not there: that is met when the sweep has come to the deepest level.
func wrongPlots(x trio) []bench.Plot {
	bent := slices.Clone(x.lists[0])
	for i := range bent[:len(bent)-1] {
		for w := 1; w < 3; w++ {
			if bent[i][w] == uint64(bench.At(x.n-1, 1)) {
				bent[i][w] = uint64(bench.At(x.n-1, 9))
			}
		}
	}
	var out []bench.Plot
	for _, j := range []job{x.two(api.OpXor, 0, 1), x.fix(0, []api.Lit{{Level: x.n - 2}}), x.quant(0, 2, true), x.swap(0, 0)} {
		p := plotOf(1, bench.Files(bent, x.lists[1], x.lists[2]), j)
		p.Want, p.Makes = api.ErrShape, nil
		out = append(out, p)
	}
	return out
}

// arcsPlots are Lay and Arcs of what a job makes.
func arcsPlots(j job) []bench.Plot {
	list, info := arcsOf(j.inner, j.outer), infoOf(j.outer[len(j.outer)-1])
	lay := plotOf(2, nil, job{what: "Lay", inner: j.inner, outer: j.outer, do: func(k *tape.Desk, out string) api.Errno {
		return sweep.Lay(k, list, info, out)
	}})
	return []bench.Plot{lay, {What: "Arcs", K: 2, Tapes: arcs(j.inner, j.outer), Do: func(k *tape.Desk) api.Errno {
		got, said, e := sweep.Arcs(k, "a")
		if e == api.OK && (!slices.Equal(got, list) || said != info) || e != api.OK && (len(got) > 0 || said != api.Info{}) {
			return -1
		}
		return e
	}}}
}

// TestTroubleAtEachCall: a fault, or the power off, at each numbered call. G7, As before.
func TestTroubleAtEachCall(t *testing.T) { bench.EachCall(t, plots()) }

// TestBehindAFault: from the first refusal on nothing is asked but Deletes. G7.
func TestBehindAFault(t *testing.T) {
	t.Parallel()
	bench.BehindAFault(t, 7, plots())
}

// TestFullDisk: each number of free blocks from none to enough. G7.
func TestFullDisk(t *testing.T) { bench.FullDisk(t, plots()) }

// TestBadBlocks: each block of each tape spoilt, of another kind, or none. G8, P4.17.
func TestBadBlocks(t *testing.T) {
	all := plots()
	for i, told := range bench.BadBlocks(t, all) {
		if all[i].What == "Arcs" && told[api.OK] > 0 {
			t.Errorf("Arcs does not need all blocks: %v", told)
		}
	}
}

// TestEachBit: each bit of each block of small files turned. G8.
func TestEachBit(t *testing.T) {
	x := trioOf(2, bench.Number(2, 6), bench.Number(2, 9), bench.Number(2, 8))
	inner, outer := bench.SmallArcs()
	for _, k := range []int{1, 3} {
		was := bench.Holds(t, k, append(x.tapes(), arcs(inner, outer)...)...)
		jobs := []job{x.two(api.OpOr, 0, 1), x.three(0, 0, 2), x.fix(0, []api.Lit{{Level: 0}}), x.quant(0, 1, true), x.swap(0, 0)}
		for i := range (len(x.lists[0]) + k - 1) / k {
			for bit := range 8 * was.Block {
				b := mount(t, was, api.LeastK*k)
				b.Disk().Spoil("f", i, bit)
				for _, j := range jobs {
					e := j.do(b.Desk, "out")
					if e == api.OK && (j.what[0] != 'F' || !slices.Equal(b.Records("out.o", api.KindOuter), j.outer)) || e != api.OK && e != api.ErrSpoilt {
						t.Fatalf("K %d, block %d, bit %d: %s: %d", k, i, bit, j.what, e)
					}
					b.clear("out")
				}
			}
		}
		for _, s := range arcs(inner, outer) {
			for i := range (len(s.List) + k - 1) / k {
				for bit := range 8 * was.Block {
					b := mount(t, was, api.LeastK*k)
					b.Disk().Spoil(s.Name, i, bit)
					if list, info, e := sweep.Arcs(b.Desk, "a"); len(list) > 0 || info != (api.Info{}) || e != api.ErrSpoilt {
						t.Fatalf("K %d, %s, block %d, bit %d: Arcs: %d", k, s.Name, i, bit, e)
					}
				}
			}
		}
	}
}

// TestShortBlocks: a tape of which a block that is not the last holds fewer records than it must. P4.11, G8.
func TestShortBlocks(t *testing.T) {
	inner, outer := bench.SmallArcs()
	was := bench.Holds(t, 2, arcs(inner, outer)...)
	for _, s := range arcs(inner, outer) {
		for i := range 2 {
			block, _ := recs.Encode(s.Kind, i, s.List[2*i:2*i+1], was.Block)
			b := mount(t, bench.InPlace(was, s.Name, i, block), 128)
			b.Is(s.Name, third(sweep.Arcs(b.Desk, "a")), api.ErrForm)
		}
	}
}
