package portable_test

import (
	"testing"

	"strata/api"
	"strata/bench"
	"strata/portable"
	"strata/tape"
)

// bad is told where a call answers another thing than it should.
const bad = api.Errno(-1)

// plotOf is a call that writes a text, of a file.
func (c call) plotOf(k int, list []api.Rec) bench.Plot {
	want, refused := c.of(list), api.OK
	if c.what == "Sop" {
		refused = refusalOf(want)
	}
	return bench.Plot{What: c.what, K: k, Tapes: bench.Files(list), Want: refused, Do: func(d *tape.Desk) api.Errno {
		text, e := c.do(d, "f")
		if e == api.OK && text != want || e != api.OK && text != "" {
			return bad
		}
		return e
	}}
}

// loadOf is the loading of a file's text.
func loadOf(k int, list []api.Rec) bench.Plot {
	text := dumpOf(list)
	return bench.Plot{What: "Load", K: k, Makes: []bench.Strip{strip("out", list)}, Do: func(d *tape.Desk) api.Errno {
		fault := portable.Load(d, text, "out")
		if fault.At != (api.Pos{}) {
			return bad
		}
		return fault.Code
	}}
}

// small are all calls over small files.
func small() []bench.Plot {
	r := bench.Dice(30)
	var out []bench.Plot
	for _, x := range []struct{ k, n int }{{1, 4}, {3, 5}, {2, 0}, {1, 6}} {
		list := bench.Canon(x.n, r.Table(x.n))
		for _, c := range calls() {
			out = append(out, c.plotOf(x.k, list))
		}
		out = append(out, loadOf(x.k, list))
	}
	return out
}

// wide are calls of Sop in which more waits than the purse holds: for a sum that is told, and for such as are too long and have too many nodes.
func wide() []bench.Plot {
	r := bench.Dice(31)
	sop := calls()[2]
	return []bench.Plot{sop.plotOf(1, bench.Canon(8, r.Table(8))), sop.plotOf(1, waits(&r, 13)), sop.plotOf(1, waits(&r, 15))}
}

// TestThePlots: they come to all answers, and some put things by.
func TestThePlots(t *testing.T) {
	for i, want := range []api.Errno{api.OK, api.ErrMany, api.ErrLong} {
		p := wide()[i]
		b := bench.Lie(t, p.K, p.Tapes...)
		b.Is(i, p.Try(b), want)
		if n := b.Disk().Counts(); n.Appends == 0 {
			t.Errorf("plot %d: nothing waits on the disk", i)
		}
	}
}

// TestTroubleAtEachCall: a fault, or the power off, at each numbered call. P16.1 to P16.4, G7, As before.
func TestTroubleAtEachCall(t *testing.T) {
	for _, p := range append(small(), wide()...) {
		t.Run(p.What, func(t *testing.T) {
			t.Parallel()
			bench.EachCall(t, []bench.Plot{p})
		})
	}
}

// TestBehindAFault: from the first refusal on nothing is asked but Deletes; power that goes off in one of them is told. G7.
func TestBehindAFault(t *testing.T) {
	t.Parallel()
	bench.BehindAFault(t, 1, small())
	bench.BehindAFault(t, 29, wide())
}

// TestFullDisk: each number of free blocks from none to enough; what puts nothing by needs none. G7.
func TestFullDisk(t *testing.T) {
	t.Parallel()
	bench.FullDisk(t, append(small(), wide()...))
	for _, p := range small() {
		if len(p.Makes) > 0 {
			continue
		}
		if e := p.Try(bench.MountSmall(t, bench.Holds(t, p.K, p.Tapes...), api.LeastK*p.K, 0)); e != api.OK {
			t.Errorf("%s: %d", p.What, e)
		}
	}
}

// TestBadBlocks: each block of the file spoilt, of another kind, or none; every call but a sum that is too long needs all of them. G8.
func TestBadBlocks(t *testing.T) {
	t.Parallel()
	plots := append(small(), wide()[:2]...)
	for i, told := range bench.BadBlocks(t, plots) {
		if told[plots[i].Want] > 0 {
			t.Errorf("plot %d: %v", i, told)
		}
	}
}

// TestEachBit: each bit of each block of a small file turned. G8, W8.
func TestEachBit(t *testing.T) {
	t.Parallel()
	const n = 3
	list := bench.Canon(n, bench.Number(n, 0xEA))
	for _, k := range []int{1, 3} {
		was := bench.Holds(t, k, bench.Files(list)...)
		for i := range (len(list) + k - 1) / k {
			for bit := range 8 * was.Block {
				b := bench.Mount(t, was, api.LeastK*k)
				b.Disk().Spoil("f", i, bit)
				b.Was = b.Disk().State()
				for _, c := range calls() {
					if e := c.plotOf(k, list).Try(b); e != api.ErrSpoilt {
						t.Fatalf("K %d, block %d, bit %d: %s: %d", k, i, bit, c.what, e)
					}
				}
			}
		}
	}
}

// TestBehindACut: what is left of a sum when the power goes off is in nobody's way. DOC.md, Temporary.
func TestBehindACut(t *testing.T) {
	r := bench.Dice(32)
	p := calls()[2].plotOf(1, bench.Canon(8, r.Table(8)))
	was := bench.Holds(t, p.K, p.Tapes...)
	calm := bench.Mount(t, was, api.LeastK)
	calm.Is("calm", p.Try(calm), api.OK)
	for at := range calm.Disk().Counts().Calls {
		cut := api.Trouble{At: at, Kind: api.TrCut, Bytes: at % 2}
		b := bench.Mount(t, was, api.LeastK, cut)
		b.Is(cut, p.Try(b, cut), api.ErrOff)
		again := bench.Mount(t, b.Disk().State(), api.LeastK)
		again.Is(cut, p.Try(again), api.OK)
	}
}

// TestOthersAreSpoilt: files that a call has nothing to do with are not read. G8.
func TestOthersAreSpoilt(t *testing.T) {
	list := bench.Canon(3, bench.Number(3, 0x96))
	b := bench.Lie(t, 1, bench.Files(list)...)
	for _, name := range []string{"raw", "tmp-1", "tmp-3", "tmp-2.i"} {
		for i := range 3 {
			b.Disk().Spoil(name, i, 77)
		}
	}
	b.Was = b.Disk().State()
	tells(b, "f", list)
	loads(b, dumpOf(list), list)
}
