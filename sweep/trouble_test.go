package sweep_test

import (
	"slices"
	"testing"

	"strata/api"
	"strata/recs"
	"strata/sweep"
	"strata/tape"
)

// plot is a call over some tapes, and what it makes where nothing befalls it.
type plot struct {
	job
	k     int
	tapes []strip
	e     api.Errno // what it answers where nothing befalls it
	still bool      // it makes no files
}

// plots go through all that they may come to: sweeps in memory and with runs, with states that are passed on and without, sorts of what they give.
func plots() []plot {
	r := dice(20)
	const n = 6
	x := trioOf(n, r.table(n), r.table(n), r.thin(n))
	tapes := files(x.lists[:]...)
	var out []plot
	for _, j := range []job{x.two(api.OpXor, 0, 1), x.three(2, 0, 1), x.fix(0, r.lits(n, 2)), x.quant(0, 3, true), x.swap(1, 1)} {
		out = append(out, plot{job: j, k: 1, tapes: tapes})
	}
	for _, j := range []job{x.two(api.OpAnd, 0, 0), x.fix(1, r.lits(n, 4)), x.quant(1, 0, false), x.swap(0, n-2)} {
		out = append(out, plot{job: j, k: 3, tapes: tapes})
	}
	for _, j := range []job{x.fix(1, r.lits(n, n)), x.two(api.OpTrue, 0, 1)} {
		out = append(out, plot{job: j, k: 20, tapes: tapes})
	}
	long := steep(4, 9) // more states that are passed on than memory holds
	var lits []api.Lit
	for l := 4; l < 13; l++ {
		lits = append(lits, api.Lit{Level: l})
	}
	inner, outer := fixOf(diagramOf(long), lits)
	out = append(out, plot{k: 1, tapes: files(long), job: job{what: "Fix of many levels", inner: inner, outer: outer, do: func(k *tape.Desk, out string) api.Errno {
		return sweep.Fix(k, "f", lits, out)
	}}})
	bent := slices.Clone(x.lists[0]) // in rows, but a node is not there: that is met when the sweep has come to the deepest level
	for i := range bent[:len(bent)-1] {
		for w := 1; w < 3; w++ {
			if bent[i][w] == uint64(at(n-1, 1)) {
				bent[i][w] = uint64(at(n-1, 9))
			}
		}
	}
	wrong := files(bent, x.lists[1], x.lists[2])
	for _, j := range []job{x.two(api.OpXor, 0, 1), x.fix(0, []api.Lit{{Level: n - 2}}), x.quant(0, 2, true), x.swap(0, 0)} {
		out = append(out, plot{job: j, k: 1, tapes: wrong, e: api.ErrShape})
	}
	j := x.two(api.OpOr, 0, 1)
	list, info := arcsOf(j.inner, j.outer), infoOf(j.outer[len(j.outer)-1])
	out = append(out, plot{k: 2, job: job{what: "Lay", inner: j.inner, outer: j.outer, do: func(k *tape.Desk, out string) api.Errno {
		return sweep.Lay(k, list, info, out)
	}}})
	out = append(out, plot{k: 2, still: true, tapes: arcs(j.inner, j.outer), job: job{what: "Arcs", do: func(k *tape.Desk, out string) api.Errno {
		got, said, e := sweep.Arcs(k, "a")
		if e == api.OK && (!slices.Equal(got, list) || said != info) || e != api.OK && (len(got) > 0 || said != api.Info{}) {
			return -1
		}
		return e
	}}})
	return out
}

func (p plot) state(t *testing.T) api.State {
	t.Helper()
	return holds(t, p.k, p.tapes...)
}

// try makes the call and looks at all that is promised of it, whatever has befallen it.
func (p plot) try(b bench, troubles ...api.Trouble) api.Errno {
	b.Helper()
	e := p.do(b.Desk, "out")
	n := b.Disk().Counts()
	what := []any{p.what, troubles, n, e}
	switch {
	case e == api.OK && !p.still:
		b.made(what, "out", p.inner, p.outer)
	case e == api.ErrOff:
		b.stays(what)
	default:
		b.asBefore(what)
	}
	if (e == api.ErrOff) == b.Disk().On() {
		b.Fatalf("%v: power %v", what, b.Disk().On())
	}
	if n.Faults+n.Full > 1 || e != api.ErrOff && (n.Faults > 0) != (e == api.ErrFault) || e != api.ErrOff && (n.Full > 0) != (e == api.ErrFull) {
		b.Fatalf("%v: the answer and what the disk has refused are not the same", what)
	}
	return e
}

// TestTroubleAtEachCall: a fault, or the power off, at each numbered call. G7, As before.
func TestTroubleAtEachCall(t *testing.T) {
	for _, p := range plots() {
		was, free := p.state(t), api.LeastK*p.k
		calm := mount(t, was, free)
		if e := p.try(calm); e != p.e {
			t.Fatalf("%s: %d", p.what, e)
		}
		calls := calm.Disk().Counts().Calls
		kept := 0 // faults that befell a Delete
		for at := range calls {
			fault := api.Trouble{At: at, Kind: api.TrFault}
			if e := p.try(mount(t, was, free, fault), fault); e == p.e {
				kept++
			} else if e != api.ErrFault {
				t.Fatalf("%s: a fault at %d: %d", p.what, at, e)
			}
			for _, bytes := range []int{0, 1, 1 << 40} {
				cut := api.Trouble{At: at, Kind: api.TrCut, Bytes: bytes}
				if e := p.try(mount(t, was, free, cut), cut); e != api.ErrOff {
					t.Fatalf("%s: power off at %d of %d: %d", p.what, at, calls, e)
				}
			}
		}
		if kept > 1+calls/3 {
			t.Errorf("%s: %d of %d faults are not told", p.what, kept, calls)
		}
	}
}

// TestBehindAFault, of every seventh call: from the first refusal on nothing is asked but Deletes, which no fault befalls; where the power goes off in one of them, that is told. G7.
func TestBehindAFault(t *testing.T) {
	off := 0
	for _, p := range plots() {
		was, free := p.state(t), api.LeastK*p.k
		calm := mount(t, was, free)
		p.try(calm)
		calls := calm.Disk().Counts().Calls
		for at := 0; at < calls; at += 7 {
			fault := api.Trouble{At: at, Kind: api.TrFault}
			b := mount(t, was, free, fault)
			if e := p.try(b, fault); e != api.ErrFault {
				continue // at a Delete
			}
			last := b.Disk().Counts().Calls
			all := []api.Trouble{fault}
			for then := at + 1; then <= last; then++ {
				all = append(all, api.Trouble{At: then, Kind: api.TrFault})
				cut := api.Trouble{At: then, Kind: api.TrCut, Bytes: then % 2}
				e := p.try(mount(t, was, free, fault, cut), fault, cut)
				if want := then < last; (e == api.ErrOff) != want || !want && e != api.ErrFault {
					t.Fatalf("%s: a fault at %d of %d, power off at %d: %d", p.what, at, last, then, e)
				}
				if e == api.ErrOff {
					off++
				}
			}
			again := mount(t, was, free, all...)
			if e := p.try(again, all...); e != api.ErrFault || again.Disk().Counts() != b.Disk().Counts() {
				t.Fatalf("%s: faults from %d on: %d, %+v", p.what, at, e, again.Disk().Counts())
			}
		}
	}
	if off == 0 {
		t.Error("the power never went off in a Delete")
	}
}

// TestFullDisk: each number of free blocks from none to enough. G7.
func TestFullDisk(t *testing.T) {
	for _, p := range plots() {
		was, free := p.state(t), api.LeastK*p.k
		calm := mount(t, was, free)
		p.try(calm)
		most := calm.Disk().Counts().Most - blocksIn(was)
		if most == 0 && !p.still {
			t.Fatalf("%s: no block is used", p.what)
		}
		for room := range most {
			if e := p.try(mountSmall(t, was, free, room)); e != api.ErrFull {
				t.Fatalf("%s: %d blocks free, %d are enough: %d", p.what, room, most, e)
			}
		}
		if e := p.try(mountSmall(t, was, free, most)); e != p.e {
			t.Fatalf("%s: %d blocks free are enough: %d", p.what, most, e)
		}
	}
}

// badBlocks are blocks in the place of one that holds these records, and what is told of them.
func badBlocks(t *testing.T, kind, i, size int, list []api.Rec) map[api.Errno][]byte {
	t.Helper()
	good, e := recs.Encode(kind, i, list, size)
	if e != api.OK {
		t.Fatalf("Encode: %d", e)
	}
	other, _ := recs.Encode(api.KindTable, i, list, size)
	spoilt := slices.Clone(good)
	spoilt[40] ^= 4
	none := slices.Clone(good[:size-4])
	none[4] = 2
	sum := recs.Sum(none)
	none = append(none, byte(sum), byte(sum>>8), byte(sum>>16), byte(sum>>24))
	return map[api.Errno][]byte{api.ErrSpoilt: spoilt, api.ErrKind: other, api.ErrForm: none}
}

// bad is a state in which a block of a tape is another one.
func bad(was api.State, name string, i int, block []byte) api.State {
	was.Files = slices.Clone(was.Files)
	for j, f := range was.Files {
		if f.Name == name {
			was.Files[j].Blocks = slices.Clone(f.Blocks)
			was.Files[j].Blocks[i] = block
		}
	}
	return was
}

// TestBadBlocks: each block of each tape spoilt, of another kind, or none. The call tells so, or answers right. G8, P4.17.
func TestBadBlocks(t *testing.T) {
	for _, p := range plots() {
		was := p.state(t)
		told := map[api.Errno]int{}
		for _, s := range p.tapes {
			for i, piece := range slices.Collect(slices.Chunk(s.list, p.k)) {
				for want, block := range badBlocks(t, s.kind, i, was.Block, piece) {
					e := p.try(mount(t, bad(was, s.name, i, block), api.LeastK*p.k))
					if told[e]++; e != want && e != p.e {
						t.Fatalf("%s: %s, block %d: %d, want %d", p.what, s.name, i, e, want)
					}
				}
			}
		}
		if len(p.tapes) > 0 && (told[api.ErrSpoilt] == 0 || told[api.ErrSpoilt] != told[api.ErrKind] || told[api.ErrKind] != told[api.ErrForm]) {
			t.Errorf("%s: told %v", p.what, told)
		}
		if p.what == "Arcs" && told[api.OK] > 0 {
			t.Errorf("Arcs does not need all blocks: %v", told)
		}
	}
}

// TestEachBit: each bit of each block of small files turned. G8.
func TestEachBit(t *testing.T) {
	x := trioOf(2, number(2, 6), number(2, 9), number(2, 8))
	inner, outer := small()
	for _, k := range []int{1, 3} {
		was := holds(t, k, append(files(x.lists[:]...), arcs(inner, outer)...)...)
		jobs := []job{x.two(api.OpOr, 0, 1), x.three(0, 0, 2), x.fix(0, []api.Lit{{Level: 0}}), x.quant(0, 1, true), x.swap(0, 0)}
		for i := range (len(x.lists[0]) + k - 1) / k {
			for bit := range 8 * was.Block {
				b := mount(t, was, api.LeastK*k)
				b.Disk().Spoil("f", i, bit)
				for _, j := range jobs {
					e := j.do(b.Desk, "out")
					if e == api.OK && (j.what[0] != 'F' || !slices.Equal(b.records("out.o", api.KindOuter), j.outer)) || e != api.OK && e != api.ErrSpoilt {
						t.Fatalf("K %d, block %d, bit %d: %s: %d", k, i, bit, j.what, e)
					}
					b.clear("out")
				}
			}
		}
		for _, s := range arcs(inner, outer) {
			for i := range (len(s.list) + k - 1) / k {
				for bit := range 8 * was.Block {
					b := mount(t, was, api.LeastK*k)
					b.Disk().Spoil(s.name, i, bit)
					if list, info, e := sweep.Arcs(b.Desk, "a"); len(list) > 0 || info != (api.Info{}) || e != api.ErrSpoilt {
						t.Fatalf("K %d, %s, block %d, bit %d: Arcs: %d", k, s.name, i, bit, e)
					}
				}
			}
		}
	}
}

// TestShortBlocks: a tape of which a block that is not the last holds fewer records than it must. P4.11, G8.
func TestShortBlocks(t *testing.T) {
	inner, outer := small()
	was := holds(t, 2, arcs(inner, outer)...)
	for _, s := range arcs(inner, outer) {
		for i := range 2 {
			block, _ := recs.Encode(s.kind, i, s.list[2*i:2*i+1], was.Block)
			b := mount(t, bad(was, s.name, i, block), 128)
			b.is(s.name, third(sweep.Arcs(b.Desk, "a")), api.ErrForm)
		}
	}
}
