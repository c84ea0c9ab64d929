package reduce_test

import (
	"math"
	"testing"

	"strata/api"
	"strata/bench"
	"strata/reduce"
	"strata/tape"
)

// wrongs are the tapes of the tests of refusals.
func wrongs() []bench.Strip {
	inner, outer := bench.SmallArcs()
	return append(arcs(inner, outer),
		strip("half.i", api.KindInner, inner),
		strip("other.o", api.KindOuter, outer),
		strip("none.i", api.KindInner, nil), strip("none.o", api.KindOuter, nil),
		strip("bad.i", api.KindRaw, inner), strip("bad.o", api.KindOuter, outer[:3]),
		strip("raw.i", api.KindRaw, inner), strip("raw.o", api.KindOuter, outer),
		strip("nodes.i", api.KindInner, inner), strip("nodes.o", api.KindNodes, outer),
		strip("turned.i", api.KindOuter, outer), strip("turned.o", api.KindInner, inner),
		strip("there", api.KindNodes, nil),
	)
}

// TestRefusals: in the order of G7. P9.1.
func TestRefusals(t *testing.T) {
	const k = 2
	const least = api.LeastK * k
	was := bench.Holds(t, k, wrongs()...)
	try := func(free int, arcs, out string, want api.Errno) {
		t.Helper()
		what := []any{free, arcs, out}
		b := mount(t, was, free)
		b.Is(what, reduce.Reduce(nil, arcs, out), api.ErrArg)
		b.Is(what, reduce.Reduce(b.Desk, arcs, out), want)
		if want == api.OK {
			inner, outer := bench.SmallArcs()
			b.made(what, out, bench.Canon(3, bench.Means(inner, outer)))
			return
		}
		b.AsBefore(what)
		switch want {
		case api.ErrArcs, api.ErrKind:
		default:
			if b.Disk().Counts().Calls > 0 {
				t.Errorf("%v: the disk was asked", what)
			}
		}
	}
	try(least, "a", "out", api.OK)
	files := map[string]api.Errno{
		"A": api.ErrName, "a b": api.ErrName, "0123456789012345678901234567890": api.ErrName,
		"no": api.ErrNoFile, "": api.ErrNoFile, "half": api.ErrNoFile, "other": api.ErrNoFile, "a.i": api.ErrNoFile,
	}
	late := map[string]api.Errno{"none": api.ErrArcs, "bad": api.ErrArcs, "raw": api.ErrKind, "nodes": api.ErrKind, "turned": api.ErrKind}
	for _, free := range []int{least, least - 1, 0} {
		for arcs, want := range files {
			try(free, arcs, "out", want)
			for out, first := range map[string]api.Errno{"": api.ErrName, "Out": api.ErrName, "012345678901234567890123456789012": api.ErrName, "there": api.ErrExists, "a.i": api.ErrExists, "a.o": api.ErrExists, "open": api.ErrExists, "tmp-3": api.ErrExists} {
				try(free, arcs, out, first)
				try(free, "a", out, first)
				try(free, "none", out, first)
			}
		}
		for arcs, want := range late {
			if free < least {
				want = api.ErrBudget
			}
			try(free, arcs, "out", want)
		}
		if free < least {
			try(free, "a", "out", api.ErrBudget)
		}
	}
	try(least, "no", "no.i", api.ErrNoFile) // a file that it makes is no file that it reads
	try(least, "half", "half.o", api.ErrNoFile)
}

// TestOpenTapes: files that are not sealed, the inner one first. P9.1, G7.
func TestOpenTapes(t *testing.T) {
	b := mount(t, bench.Holds(t, 1), 64)
	for _, want := range []struct {
		do   func() api.Errno
		want api.Errno
	}{
		{func() api.Errno { return b.Disk().Create("a.o") }, api.ErrNoFile},
		{func() api.Errno { return b.Disk().Create("a.i") }, api.ErrOpen},
		{func() api.Errno { return b.Disk().Seal("a.i") }, api.ErrOpen},
		{func() api.Errno { return b.Disk().Seal("a.o") }, api.ErrArcs},
	} {
		b.Is("the disk", want.do(), api.OK)
		b.Was = b.Disk().State()
		b.Is(want.want, reduce.Reduce(b.Desk, "a", "out"), want.want)
		b.AsBefore(want.want)
	}
}

// TestEnds: each kind of what is no end of arcs is told ahead of the inner tape, which is none. P9.1.
func TestEnds(t *testing.T) {
	inner, outer := bench.SmallArcs()
	for _, last := range []api.Rec{
		{api.Mark - 1, 3, 0, 5}, {0, 3, 0, 5}, {api.Mark, 65537, 0, 5}, {api.Mark, 1 << 63, 0, 5}, {api.Mark, api.Mark, uint64(T), 0},
		{api.Mark, 3, uint64(T) + 1, 5}, {api.Mark, 3, 1 << 62, 5}, {api.Mark, 3, uint64(bench.At(3, 0)), 5}, {api.Mark, 0, 0, 5}, {api.Mark, 3, api.Mark, 5},
		{api.Mark, 65536, 1 << 56, 5}, {api.Mark, 3, uint64(T), 1}, {api.Mark, 3, uint64(F), 1 << 63}, {api.Mark, 3, 0, 0}, {api.Mark, 3, 0, 1 << 63}, {api.Mark, 3, 0, api.Mark},
		outer[0], {},
	} {
		for _, k := range []int{1, 2, 9} {
			tapes := arcs(inner, append(outer[:5:5], last))
			tapes[0].Kind = api.KindRaw
			b := mount(t, bench.Holds(t, k, tapes...), 64*k)
			b.Is(last, reduce.Reduce(b.Desk, "a", "out"), api.ErrArcs)
			b.AsBefore(last)
			if reads := b.Disk().Counts().Calls; reads != 1 {
				t.Errorf("%v: %d calls", last, reads)
			}
			tapes[1].List[5] = bench.End(3, bench.At(2, 7), 99)
			b = mount(t, bench.Holds(t, k, tapes...), 64*k)
			b.Is("an end", reduce.Reduce(b.Desk, "a", "out"), api.ErrKind)
			b.AsBefore("an end")
		}
	}
	tapes := arcs(inner, []api.Rec{bench.End(3, T, 0)})
	tapes[0].Kind = api.KindRaw
	b := mount(t, bench.Holds(t, 2, tapes...), 128)
	b.Is("an end that stands alone", reduce.Reduce(b.Desk, "a", "out"), api.ErrKind)
	b.AsBefore("an end that stands alone")
}

// TestWithoutPower: ahead of all but a nil desk. G7.
func TestWithoutPower(t *testing.T) {
	b := mount(t, bench.Holds(t, 1, wrongs()...), 64, api.Trouble{At: 0, Kind: api.TrCut})
	b.Disk().Create("cut")
	for _, name := range []string{"a", "A", "no", "none", "there"} {
		b.Is(name, reduce.Reduce(b.Desk, name, name), api.ErrOff)
		b.Is(name, reduce.Reduce(nil, name, name), api.ErrArg)
	}
	b.AsBefore("all")
}

// TestClosedPart: nothing is free in it. G7.
func TestClosedPart(t *testing.T) {
	inner, outer := bench.SmallArcs()
	b := mount(t, bench.Holds(t, 1, arcs(inner, outer)...), 999)
	part, _ := b.Purse().Part(500)
	k, _ := tape.NewDesk(b.Disk(), part)
	b.Is("an open part", reduce.Reduce(k, "a", "out"), api.OK)
	if part.Used() != 0 {
		t.Errorf("%d are out of the part", part.Used())
	}
	b.Disk().Delete("out")
	part.Close()
	b.Still("a closed part", func() { b.Is("a closed part", reduce.Reduce(k, "a", "out"), api.ErrBudget) })
	b.AsBefore("a closed part")
}

// TestGreatPurse: a budget that no memory has. G1, G10.
func TestGreatPurse(t *testing.T) {
	r := dice{9}
	g := tree(6, r.Table(6))
	for _, k := range []int{1, 2, 2047} {
		mount(t, bench.Holds(t, k, arcs(g.tapes())...), math.MaxInt-5).run(k, g.canon())
	}
}
