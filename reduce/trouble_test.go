package reduce_test

import (
	"slices"
	"testing"

	"strata/api"
	"strata/recs"
	"strata/reduce"
)

// plot is a call over two tapes, and what it makes where nothing befalls it.
type plot struct {
	what  string
	k     int
	tapes []strip
	e     api.Errno // what it answers where nothing befalls it
	want  []api.Rec
}

// plots go through all that a reduction may come to: in memory and with runs of each of its queues, with nodes that are passed over and nodes that become one, with a file and without a node; and arcs that are seen not to be sound when the file has been begun.
func plots() []plot {
	r := dice(20)
	const n = 6
	full, thin := r.table(n), r.thin(n)
	var out []plot
	add := func(what string, k int, g graph) {
		out = append(out, plot{what: what, k: k, tapes: arcs(g.tapes()), want: g.canon()})
	}
	add("a tree", 1, tree(n, full))
	add("a puffed one", 1, r.puffed(graphOf(canon(n, full)), 60))
	add("a thin tree", 2, r.shuffled(tree(n, thin)))
	add("a wild one", 3, r.wild(n, 9))
	add("a tree of a leaf", 1, tree(n, make([]bool, 1<<n)))
	add("a tree in memory", 20, tree(n, full))
	add("a leaf", 1, graph{n, uint64(T), nil})
	inner, outer := tree(n, full).tapes()
	late := slices.Clone(outer)
	late[len(late)-1] = end(n, 0, 1<<n) // a node too many
	out = append(out, plot{what: "a wrong count", k: 1, tapes: arcs(inner, late), e: api.ErrArcs})
	out = append(out, plot{what: "an arc that is missing", k: 2, tapes: arcs(inner[1:], outer), e: api.ErrArcs})
	return out
}

func (p plot) state(t *testing.T) api.State {
	t.Helper()
	return holds(t, p.k, p.tapes...)
}

// try makes the call and looks at all that is promised of it, whatever has befallen it.
func (p plot) try(b bench, troubles ...api.Trouble) api.Errno {
	b.Helper()
	e := reduce.Reduce(b.Desk, "a", "out")
	n := b.Disk().Counts()
	what := []any{p.what, troubles, n, e}
	switch {
	case e == api.OK:
		b.made(what, "out", p.want)
	case e == api.ErrOff:
		b.stays(what)
	default:
		b.asBefore(what)
	}
	if (e == api.ErrOff) == b.Disk().On() {
		b.Fatalf("%v: power %v", what, b.Disk().On())
	}
	if n.Faults+n.Full > 1 || e != api.ErrOff && (n.Faults > 0) != (e == api.ErrFault) || e != api.ErrOff && (n.Full > 0) != (e == api.ErrFull) {
		b.Fatalf("%v: the answer and what the disk has refused are not the same", what)
	}
	return e
}

// TestTroubleAtEachCall: a fault, or the power off, at each numbered call. G7, As before.
func TestTroubleAtEachCall(t *testing.T) {
	for _, p := range plots() {
		was, free := p.state(t), api.LeastK*p.k
		calm := mount(t, was, free)
		if e := p.try(calm); e != p.e {
			t.Fatalf("%s: %d", p.what, e)
		}
		calls := calm.Disk().Counts().Calls
		kept := 0 // faults that befell a Delete
		for at := range calls {
			fault := api.Trouble{At: at, Kind: api.TrFault}
			if e := p.try(mount(t, was, free, fault), fault); e == p.e {
				kept++
			} else if e != api.ErrFault {
				t.Fatalf("%s: a fault at %d: %d", p.what, at, e)
			}
			for _, bytes := range []int{0, 1, 1 << 40} {
				cut := api.Trouble{At: at, Kind: api.TrCut, Bytes: bytes}
				if e := p.try(mount(t, was, free, cut), cut); e != api.ErrOff {
					t.Fatalf("%s: power off at %d of %d: %d", p.what, at, calls, e)
				}
			}
		}
		if kept > 1+calls/3 {
			t.Errorf("%s: %d of %d faults are not told", p.what, kept, calls)
		}
	}
}

// TestBehindAFault, of every seventh call: from the first refusal on nothing is asked but Deletes, which no fault befalls; where the power goes off in one of them, that is told. G7.
func TestBehindAFault(t *testing.T) {
	off := 0
	for _, p := range plots() {
		was, free := p.state(t), api.LeastK*p.k
		calm := mount(t, was, free)
		p.try(calm)
		calls := calm.Disk().Counts().Calls
		for at := 0; at < calls; at += 7 {
			fault := api.Trouble{At: at, Kind: api.TrFault}
			b := mount(t, was, free, fault)
			if e := p.try(b, fault); e != api.ErrFault {
				continue // at a Delete
			}
			last := b.Disk().Counts().Calls
			all := []api.Trouble{fault}
			for then := at + 1; then <= last; then++ {
				all = append(all, api.Trouble{At: then, Kind: api.TrFault})
				cut := api.Trouble{At: then, Kind: api.TrCut, Bytes: then % 2}
				e := p.try(mount(t, was, free, fault, cut), fault, cut)
				if want := then < last; (e == api.ErrOff) != want || !want && e != api.ErrFault {
					t.Fatalf("%s: a fault at %d of %d, power off at %d: %d", p.what, at, last, then, e)
				}
				if e == api.ErrOff {
					off++
				}
			}
			again := mount(t, was, free, all...)
			if e := p.try(again, all...); e != api.ErrFault || again.Disk().Counts() != b.Disk().Counts() {
				t.Fatalf("%s: faults from %d on: %d, %+v", p.what, at, e, again.Disk().Counts())
			}
		}
	}
	if off == 0 {
		t.Error("the power never went off in a Delete")
	}
}

// TestFullDisk: each number of free blocks from none to enough. G7.
func TestFullDisk(t *testing.T) {
	for _, p := range plots() {
		was, free := p.state(t), api.LeastK*p.k
		calm := mount(t, was, free)
		p.try(calm)
		most := calm.Disk().Counts().Most - blocksIn(was)
		if most == 0 {
			t.Fatalf("%s: no block is used", p.what)
		}
		for room := range most {
			if e := p.try(mountSmall(t, was, free, room)); e != api.ErrFull {
				t.Fatalf("%s: %d blocks free, %d are enough: %d", p.what, room, most, e)
			}
		}
		if e := p.try(mountSmall(t, was, free, most)); e != p.e {
			t.Fatalf("%s: %d blocks free are enough: %d", p.what, most, e)
		}
	}
}

// badBlocks are blocks in the place of one that holds these records, and what is told of them.
func badBlocks(t *testing.T, kind, i, size int, list []api.Rec) map[api.Errno][]byte {
	t.Helper()
	good, e := recs.Encode(kind, i, list, size)
	if e != api.OK {
		t.Fatalf("Encode: %d", e)
	}
	other, _ := recs.Encode(api.KindTable, i, list, size)
	spoilt := slices.Clone(good)
	spoilt[40] ^= 4
	none := slices.Clone(good[:size-4])
	none[4] = 2
	sum := recs.Sum(none)
	none = append(none, byte(sum), byte(sum>>8), byte(sum>>16), byte(sum>>24))
	return map[api.Errno][]byte{api.ErrSpoilt: spoilt, api.ErrKind: other, api.ErrForm: none}
}

// bad is a state in which a block of a tape is another one.
func bad(was api.State, name string, i int, block []byte) api.State {
	was.Files = slices.Clone(was.Files)
	for j, f := range was.Files {
		if f.Name == name {
			was.Files[j].Blocks = slices.Clone(f.Blocks)
			was.Files[j].Blocks[i] = block
		}
	}
	return was
}

// TestBadBlocks: each block of each tape spoilt, of another kind, or none. All blocks are needed, so the call tells it. G8, P4.17.
func TestBadBlocks(t *testing.T) {
	for _, p := range plots() {
		was := p.state(t)
		told := map[api.Errno]int{}
		for _, s := range p.tapes {
			for i, piece := range slices.Collect(slices.Chunk(s.list, p.k)) {
				for want, block := range badBlocks(t, s.kind, i, was.Block, piece) {
					e := p.try(mount(t, bad(was, s.name, i, block), api.LeastK*p.k))
					if told[e]++; e != want && e != p.e {
						t.Fatalf("%s: %s, block %d: %d, want %d", p.what, s.name, i, e, want)
					}
				}
			}
		}
		if told[api.ErrSpoilt] == 0 || told[api.ErrSpoilt] != told[api.ErrKind] || told[api.ErrKind] != told[api.ErrForm] || told[api.OK] > 0 {
			t.Errorf("%s: told %v", p.what, told)
		}
	}
}

// TestEachBit: each bit of each block of small tapes turned. G8.
func TestEachBit(t *testing.T) {
	inner, outer := small()
	for _, k := range []int{1, 3} {
		was := holds(t, k, arcs(inner, outer)...)
		for _, s := range arcs(inner, outer) {
			for i := range (len(s.list) + k - 1) / k {
				for bit := range 8 * was.Block {
					b := mount(t, was, api.LeastK*k)
					b.Disk().Spoil(s.name, i, bit)
					b.was = b.Disk().State()
					b.is([]any{k, s.name, i, bit}, reduce.Reduce(b.Desk, "a", "out"), api.ErrSpoilt)
					b.asBefore(bit)
				}
			}
		}
	}
}

// TestShortBlocks: a tape of which a block that is not the last holds fewer records than it must. P4.11, G8.
func TestShortBlocks(t *testing.T) {
	inner, outer := small()
	was := holds(t, 2, arcs(inner, outer)...)
	for _, s := range arcs(inner, outer) {
		for i := range 2 {
			block, _ := recs.Encode(s.kind, i, s.list[2*i:2*i+1], was.Block)
			b := mount(t, bad(was, s.name, i, block), 128)
			b.is(s.name, reduce.Reduce(b.Desk, "a", "out"), api.ErrForm)
			b.asBefore(s.name)
		}
	}
}
