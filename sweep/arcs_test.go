package sweep_test

import (
	"cmp"
	"math"
	"slices"
	"testing"

	"strata/api"
	"strata/bench"
	"strata/sweep"
)

// arcsOf are the arcs of two tapes, by From and Side.
func arcsOf(inner, outer []api.Rec) []api.Arc {
	var list []api.Arc
	for _, r := range inner {
		list = append(list, api.Arc{From: api.Ptr(r[1]), Side: int(r[2]), To: api.Ptr(r[0])})
	}
	for _, r := range outer[:len(outer)-1] {
		list = append(list, api.Arc{From: api.Ptr(r[0]), Side: int(r[1]), To: api.Ptr(r[2])})
	}
	slices.SortFunc(list, func(a, b api.Arc) int { return cmp.Or(cmp.Compare(a.From, b.From), a.Side-b.Side) })
	return list
}

func infoOf(r api.Rec) api.Info {
	return api.Info{Vars: int(r[1]), Root: api.Ptr(r[2]), Nodes: int(r[3])}
}

// judge lays two tapes and holds what Arcs says of them against the words. P8.7.
func judge(t *testing.T, k int, inner, outer []api.Rec) bool {
	t.Helper()
	b := mount(t, bench.Holds(t, k, arcs(inner, outer)...), api.LeastK*k)
	list, info, e := sweep.Arcs(b.Desk, "a")
	if bench.AreSound(inner, outer) {
		if want := arcsOf(inner, outer); e != api.OK || info != infoOf(outer[len(outer)-1]) || !slices.Equal(list, want) {
			t.Fatalf("K %d: Arcs of %v and %v: %v, %+v, %d", k, inner, outer, list, info, e)
		}
	} else if e != api.ErrArcs || len(list) > 0 || info != (api.Info{}) {
		t.Fatalf("K %d: Arcs of %v and %v: %v, %+v, %d, want ErrArcs", k, inner, outer, list, info, e)
	}
	b.AsBefore("Arcs")
	return e == api.OK
}

// TestArcsEachKindOfUnsound: one thing wrong, of each kind that DOC.md tells. P8.7.
func TestArcsEachKindOfUnsound(t *testing.T) {
	for _, k := range []int{1, 2, 40} {
		for _, w := range bench.UnsoundArcs() {
			if judge(t, k, w.Inner, w.Outer) {
				t.Errorf("%s: it is sound", w.What)
			}
		}
		inner, outer := bench.SmallArcs()
		if !judge(t, k, inner, outer) {
			t.Error("the small one is not sound")
		}
		outer[5][1] = 65536 // more levels than are used
		if !judge(t, k, inner, outer) || !judge(t, k, nil, []api.Rec{bench.End(0, T, 0)}) || !judge(t, k, nil, []api.Rec{bench.End(65536, F, 0)}) {
			t.Error("it is not sound")
		}
	}
}

// TestArcsOfBentTapes: tapes of the five, changed here and there. P8.7.
func TestArcsOfBentTapes(t *testing.T) {
	r := dice{10}
	sound := 0
	for range 150 {
		n := 1 + r.Below(4)
		x := trioOf(n, r.Table(n), r.Thin(n), r.Table(n))
		all := x.jobs(&r)
		j := all[r.Below(len(all))]
		k := 1 + r.Below(3)
		if !judge(t, k, j.inner, j.outer) {
			t.Fatalf("%s is not sound", j.what)
		}
		for range 20 {
			inner, outer := r.BendArcs(j.inner, j.outer)
			if judge(t, k, inner, outer) {
				sound++
			}
			inner, outer = r.BendArcs(inner, outer)
			judge(t, k, inner, outer)
		}
	}
	if sound == 0 {
		t.Error("none of the bent ones is sound")
	}
}

// TestArcsOfAnyRecords: hand-made records of numbers of any size. P8.7, G1.
func TestArcsOfAnyRecords(t *testing.T) {
	r := dice{11}
	for range 3000 {
		inner, outer := r.AnyArcs()
		judge(t, 1+r.Below(3), inner, outer)
	}
}

// TestArcsRefuses: in the order of G7. P8.7.
func TestArcsRefuses(t *testing.T) {
	inner, outer := bench.SmallArcs()
	tapes := append(arcs(inner, outer),
		strip("raw.i", api.KindRaw, inner), strip("raw.o", api.KindOuter, outer),
		strip("nodes.i", api.KindInner, inner), strip("nodes.o", api.KindNodes, outer),
		strip("half.i", api.KindInner, inner), strip("other.o", api.KindOuter, outer),
		strip("none.i", api.KindRaw, inner), strip("none.o", api.KindOuter, nil),
		strip("bad.i", api.KindRaw, inner), strip("bad.o", api.KindOuter, outer[:3]),
	)
	was := bench.Holds(t, 2, tapes...)
	for name, want := range map[string]api.Errno{
		"a": api.OK, "raw": api.ErrKind, "nodes": api.ErrKind, "half": api.ErrNoFile, "other": api.ErrNoFile, "no": api.ErrNoFile, "": api.ErrNoFile, "A": api.ErrName,
		"none": api.ErrArcs, "bad": api.ErrArcs, // the end of the outer tape comes ahead of the inner tape
	} {
		for _, free := range []int{128, 127, 0} {
			b := mount(t, was, free)
			if free < 128 && want != api.ErrNoFile && want != api.ErrName {
				want = api.ErrBudget
			}
			list, info, e := sweep.Arcs(b.Desk, name)
			if e != want || e != api.OK && (len(list) > 0 || info != api.Info{}) {
				t.Errorf("Arcs(%q) with %d free: %v, %+v, %d, want %d", name, free, list, info, e, want)
			}
			b.AsBefore(name)
			if want == api.ErrBudget && b.Disk().Counts().Calls > 0 {
				t.Errorf("Arcs(%q): the disk was asked", name)
			}
			b.Is("a nil desk", third(sweep.Arcs(nil, name)), api.ErrArg)
		}
	}
	// Each kind of what is no end is told ahead of the inner tape, which is none.
	for _, last := range []api.Rec{
		{api.Mark - 1, 3, 0, 5}, {0, 3, 0, 5}, {api.Mark, 65537, 0, 5}, {api.Mark, 1 << 63, 0, 5}, {api.Mark, api.Mark, uint64(T), 0},
		{api.Mark, 3, uint64(T) + 1, 5}, {api.Mark, 3, 1 << 62, 5}, {api.Mark, 3, uint64(bench.At(3, 0)), 5}, {api.Mark, 0, 0, 5}, {api.Mark, 3, api.Mark, 5},
		{api.Mark, 3, uint64(T), 1}, {api.Mark, 3, uint64(F), 1 << 63}, {api.Mark, 3, 0, 0}, {api.Mark, 3, 0, 1 << 63}, {api.Mark, 3, 0, api.Mark},
	} {
		tapes := arcs(inner, append(outer[:5:5], last))
		tapes[0].Kind = api.KindRaw
		b := mount(t, bench.Holds(t, 2, tapes...), 128)
		b.Is(last, third(sweep.Arcs(b.Desk, "a")), api.ErrArcs)
		tapes[1].List[5] = bench.End(3, bench.At(2, 7), 99)
		b = mount(t, bench.Holds(t, 2, tapes...), 128)
		b.Is("an end", third(sweep.Arcs(b.Desk, "a")), api.ErrKind)
	}
	b := mount(t, was, 128)
	for _, open := range []string{"one.i", "one.o"} {
		b.Disk().Create(open)
		if open == "one.i" {
			b.Is(open, third(sweep.Arcs(b.Desk, "one")), api.ErrOpen)
			b.Disk().Seal(open)
			b.Is(open, third(sweep.Arcs(b.Desk, "one")), api.ErrNoFile)
			continue
		}
		b.Is(open, third(sweep.Arcs(b.Desk, "one")), api.ErrOpen)
		b.Disk().Seal(open)
		b.Is(open, third(sweep.Arcs(b.Desk, "one")), api.ErrArcs)
	}
}

// lay hands a list to Lay and holds what it does against the words. P8.8.
func lay(t *testing.T, k int, list []api.Arc, info api.Info) api.Errno {
	t.Helper()
	inner, outer := []api.Rec{}, []api.Rec{}
	for _, a := range list {
		if a.To == F || a.To == T {
			outer = append(outer, api.Rec{uint64(a.From), uint64(a.Side), uint64(a.To)})
		} else {
			inner = append(inner, api.Rec{uint64(a.To), uint64(a.From), uint64(a.Side)})
		}
	}
	bench.ByWords(inner)
	bench.ByWords(outer)
	outer = append(outer, api.Rec{api.Mark, uint64(info.Vars), uint64(info.Root), uint64(info.Nodes)})
	want := api.OK
	if info.Vars < 0 || info.Nodes < 0 || !bench.AreSound(inner, outer) {
		want = api.ErrArcs
	}
	b := mount(t, bench.Holds(t, k), api.LeastK*k)
	was := slices.Clone(list)
	e := sweep.Lay(b.Desk, list, info, "out")
	if e != want {
		t.Fatalf("Lay of %v, %+v: %d, want %d", list, info, e, want)
	}
	if !slices.Equal(list, was) {
		t.Fatalf("Lay has changed the list")
	}
	if e != api.OK {
		b.AsBefore("Lay")
		return e
	}
	b.made("Lay", "out", inner, outer)
	return e
}

// TestLay: lists in any order, changed here and there. P8.8, G3.
func TestLay(t *testing.T) {
	r := dice{12}
	counts := map[api.Errno]int{}
	for range 200 {
		n := 1 + r.Below(4)
		x := trioOf(n, r.Table(n), r.Thin(n), r.Table(n))
		all := x.jobs(&r)
		j := all[r.Below(len(all))]
		list, info := arcsOf(j.inner, j.outer), infoOf(j.outer[len(j.outer)-1])
		for i := range list {
			o := r.Below(i + 1)
			list[i], list[o] = list[o], list[i]
		}
		k := 1 + r.Below(3)
		if e := lay(t, k, list, info); e != api.OK {
			t.Fatalf("%s: %d", j.what, e)
		}
		for range 20 {
			bent, said := slices.Clone(list), info
			for range 1 + r.Below(2) {
				bent, said = r.bendList(bent, said)
			}
			counts[lay(t, k, bent, said)]++
		}
	}
	if counts[api.OK] == 0 || counts[api.ErrArcs] == 0 {
		t.Errorf("the bent ones are answered %v", counts)
	}
}

// bendList changes a list of arcs, or what ends it, in one place.
func (r *dice) bendList(list []api.Arc, info api.Info) ([]api.Arc, api.Info) {
	ints := []int{-1, 0, 1, 2, 3, math.MinInt, math.MaxInt, 65536, 65537, 1 << 62}
	word := api.Ptr(r.Odd())
	switch r.Below(4) {
	case 0:
		switch r.Below(3) {
		case 0:
			info.Vars = ints[r.Below(len(ints))]
		case 1:
			info.Root = word
		case 2:
			info.Nodes = ints[r.Below(len(ints))]
		}
		return list, info
	case 1:
		return append(list, api.Arc{From: word, Side: r.Below(2), To: T}), info
	}
	if len(list) == 0 {
		return list, info
	}
	a := &list[r.Below(len(list))]
	switch r.Below(5) {
	case 0:
		a.From = word
	case 1:
		a.To = word
	case 2:
		a.Side = ints[r.Below(len(ints))]
	case 3:
		a.To = list[r.Below(len(list))].From
	case 4:
		list = append(list[:len(list)-1:len(list)-1], *a)
	}
	return list, info
}

// TestLayRefuses: in its order. P8.8.
func TestLayRefuses(t *testing.T) {
	inner, outer := bench.SmallArcs()
	list, info := arcsOf(inner, outer), infoOf(outer[5])
	was := bench.Holds(t, 2, strip("there.i", api.KindRaw, nil), strip("here.o", api.KindRaw, nil))
	bad := info
	bad.Nodes++
	for _, c := range []struct {
		info api.Info
		out  string
		free int
		want api.Errno
	}{
		{info, "out", 128, api.OK}, {bad, "A", 0, api.ErrArcs}, {bad, "there", 128, api.ErrArcs}, {bad, "out", 128, api.ErrArcs},
		{info, "A", 0, api.ErrName}, {info, "there", 0, api.ErrExists}, {info, "here", 0, api.ErrExists}, {info, "out", 127, api.ErrBudget},
		{api.Info{Vars: -1, Root: T}, "A", 0, api.ErrArcs}, {api.Info{Vars: 65537, Root: T}, "A", 0, api.ErrArcs},
	} {
		b := mount(t, was, c.free)
		b.Is(c, sweep.Lay(nil, list, c.info, c.out), api.ErrArg)
		b.Is(c, sweep.Lay(b.Desk, list, c.info, c.out), c.want)
		if c.want == api.OK {
			b.made(c, c.out, inner, outer)
		} else {
			b.AsBefore(c)
		}
	}
	for _, n := range []int{-1, 0, 1, 65536, 65537, math.MaxInt, math.MinInt} {
		lay(t, 1, nil, api.Info{Vars: n, Root: F})
		lay(t, 1, []api.Arc{}, api.Info{Vars: n, Root: T})
		lay(t, 1, list, api.Info{Vars: n, Root: 0, Nodes: 5})
		lay(t, 1, nil, api.Info{Vars: 3, Root: T, Nodes: n})
		lay(t, 1, nil, api.Info{Vars: 3, Root: 0, Nodes: n})
	}
}

// TestThereAndBack: Arcs of what Lay made, Lay of what Arcs told, and both of what the five make. P8.10.
func TestThereAndBack(t *testing.T) {
	r := dice{13}
	for n := range 6 {
		x := trioOf(n, r.Table(n), r.Table(n), r.Thin(n))
		for _, j := range x.jobs(&r) {
			b := lie(t, 1+r.Below(4), x.lists[:]...)
			b.run(j)
			list, info, e := sweep.Arcs(b.Desk, "out")
			b.Is(j.what, e, api.OK)
			if !slices.Equal(list, arcsOf(j.inner, j.outer)) || info != infoOf(j.outer[len(j.outer)-1]) {
				t.Fatalf("%s: Arcs: %v, %+v", j.what, list, info)
			}
			b.Is(j.what, sweep.Lay(b.Desk, list, info, "again"), api.OK)
			b.clear("out")
			b.made(j.what, "again", j.inner, j.outer)
			same, also, e := sweep.Arcs(b.Desk, "again")
			if !slices.Equal(same, list) || also != info || e != api.OK {
				t.Fatalf("%s: Arcs again: %v, %+v, %d", j.what, same, also, e)
			}
		}
	}
}

// TestArcsIsNewMemory: what is answered shares nothing with what is answered next, its spare room too. G3.
func TestArcsIsNewMemory(t *testing.T) {
	inner, outer := bench.SmallArcs()
	b := mount(t, bench.Holds(t, 2, arcs(inner, outer)...), 128)
	list, _, _ := sweep.Arcs(b.Desk, "a")
	want := slices.Clone(list)
	for i := range list[:cap(list)] {
		list[:cap(list)][i] = api.Arc{From: 9, Side: 9, To: 9}
	}
	again, _, e := sweep.Arcs(b.Desk, "a")
	if !slices.Equal(again, want) || e != api.OK {
		t.Errorf("%v, %d", again, e)
	}
	room := append(slices.Clone(want), api.Arc{From: 7}, api.Arc{To: 8})
	was := slices.Clone(room)
	b.Is("Lay", sweep.Lay(b.Desk, room[:len(want)], infoOf(outer[5]), "out"), api.OK)
	if !slices.Equal(room, was) {
		t.Errorf("the spare room is %v, was %v", room, was)
	}
}
