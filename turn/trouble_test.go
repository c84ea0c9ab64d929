package turn_test

import (
	"testing"

	"strata/api"
	"strata/bench"
	"strata/tape"
	"strata/turn"
)

// bad is told where a call answers another thing than it should, with OK.
const bad = api.Errno(-1)

func (d deed) plot(k int, tapes []bench.Strip) bench.Plot {
	return bench.Plot{What: d.what, K: k, Tapes: tapes, Makes: d.makes, Do: func(desk *tape.Desk) api.Errno {
		right, e := d.do(desk)
		if e == api.OK && !right {
			return bad
		}
		return e
	}}
}

// plots go through all that the calls may come to: one file and several, levels that are moved and those that stay, numbers that are told and files that are made.
func plots() []bench.Plot {
	r := bench.Dice(20)
	var out []bench.Plot
	for _, c := range []struct {
		k int
		g group
	}{
		{1, group{full(3, bench.Number(3, 0x27)), full(3, r.Thin(3))}},
		{3, group{full(4, bench.TableOf(4, func(x int) bool { return x>>2&x > 0 })), full(4, r.Thin(4))}}, // Best moves a level of them
		{2, group{full(2, bench.Number(2, 6)), full(2, make([]bool, 4))}},
	} {
		for _, d := range c.g.deeds(&r) {
			out = append(out, d.plot(c.k, c.g.tapes()))
		}
	}
	g := group{full(5, r.Table(5))}
	swap := deed{"Swap", func(k *tape.Desk) (bool, api.Errno) { return true, turn.Swap(k, "f", 2, "out") }, []bench.Strip{nodeFile("out", g[0].swap(2).list())}}
	return append(out, swap.plot(1, g.tapes()))
}

// wrongPlots are calls over two files, of which the second is in rows, and a node at its deepest level is not there: that is met late.
func wrongPlots() []bench.Plot {
	g := group{full(3, bench.Number(3, 0x27)), full(3, bench.Number(3, 0x96))}
	lists := g.lists()
	for i := range lists[1] {
		if lists[1][i][0] == uint64(bench.At(1, 1)) {
			lists[1][i][2] = uint64(bench.At(2, 9))
		}
	}
	r := bench.Dice(21)
	var out []bench.Plot
	for _, d := range g.deeds(&r)[1:] {
		p := d.plot(2, bench.Files(lists...))
		p.Want, p.Makes = api.ErrShape, nil
		out = append(out, p)
	}
	return out
}

// TestTroubleAtEachCall: a fault, or the power off, at each numbered call: all files that are to be made are there, or none is; no temporary is left. P12.1 to P12.4, G7.
func TestTroubleAtEachCall(t *testing.T) {
	for _, p := range append(plots(), wrongPlots()...) {
		t.Run(p.What, func(t *testing.T) {
			t.Parallel()
			bench.EachCall(t, []bench.Plot{p})
		})
	}
}

// TestBehindAFault: from the first refusal on nothing is asked but Deletes. G7.
func TestBehindAFault(t *testing.T) {
	for _, p := range append(plots(), wrongPlots()...) {
		t.Run(p.What, func(t *testing.T) {
			t.Parallel()
			bench.BehindAFault(t, 23, []bench.Plot{p})
		})
	}
}

// TestFullDisk: each number of free blocks from none to enough. G7.
func TestFullDisk(t *testing.T) {
	t.Parallel()
	bench.FullDisk(t, append(plots(), wrongPlots()...))
}

// TestBadBlocks: each block of each file spoilt, of another kind, or none: that is told, where it is needed. G8.
func TestBadBlocks(t *testing.T) {
	t.Parallel()
	for i, told := range bench.BadBlocks(t, plots()) {
		if told[api.OK] > 0 && plots()[i].What != "Swap" { // of which g is not read; the others need all of all files
			t.Errorf("plot %d: %v", i, told)
		}
	}
}

// TestEachBit: each bit of each block of a small file turned: ErrSpoilt. G8.
func TestEachBit(t *testing.T) {
	t.Parallel()
	r := bench.Dice(22)
	g := group{full(2, bench.Number(2, 6))}
	for _, k := range []int{1, 3} {
		was := bench.Holds(t, k, g.tapes()...)
		for _, d := range g.deeds(&r) {
			p := d.plot(k, g.tapes())
			for i := range (len(g[0].list()) + k - 1) / k {
				for bit := range 8 * was.Block {
					b := bench.Mount(t, was, api.LeastK*k)
					b.Disk().Spoil("f", i, bit)
					b.Was = b.Disk().State()
					if e := p.Try(b); e != api.ErrSpoilt {
						t.Fatalf("K %d, block %d, bit %d: %s: %d", k, i, bit, d.what, e)
					}
				}
			}
		}
	}
}

// TestAgainAndAgain: where the power has gone off, and what was left is mounted again, the same call does its work beside that. G7.
func TestAgainAndAgain(t *testing.T) {
	t.Parallel()
	for _, p := range plots() {
		was := bench.Holds(t, p.K, p.Tapes...)
		for at := 0; ; at += 9 {
			b := bench.Mount(t, was, api.LeastK*p.K, api.Trouble{At: at, Kind: api.TrCut, Bytes: 1})
			if p.Do(b.Desk) != api.ErrOff {
				break
			}
			left := b.Disk().State()
			for _, s := range p.Makes { // one that was made ahead of the cut is in the way
				for i, f := range left.Files {
					if f.Name == s.Name {
						left.Files = append(left.Files[:i:i], left.Files[i+1:]...)
						break
					}
				}
			}
			b = bench.Mount(t, left, api.LeastK*p.K)
			if e := p.Try(b); e != api.OK {
				t.Fatalf("%s: behind a cut at %d: %d", p.What, at, e)
			}
		}
	}
}
