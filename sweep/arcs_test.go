package sweep_test

import (
	"cmp"
	"math"
	"slices"
	"testing"

	"strata/api"
	"strata/sweep"
)

// isEnd tells whether a record is an end of arcs.
func isEnd(r api.Rec) bool {
	n, root, c := r[1], r[2], r[3]
	if r[0] != ^uint64(0) || n > 65536 || c >= 1<<63 {
		return false
	}
	if root == first || root == first+1 {
		return c == 0
	}
	return root/ids < n && c > 0
}

// areSound tells whether two tapes are sound, by the words of DOC.md.
func areSound(inner, outer []api.Rec) bool {
	if len(outer) == 0 || !isEnd(outer[len(outer)-1]) {
		return false
	}
	last := outer[len(outer)-1]
	outer = outer[:len(outer)-1]
	n, root := last[1], last[2]
	rise := func(a, b api.Rec) int { return slices.Compare(a[:], b[:]) }
	if !slices.IsSortedFunc(inner, rise) || !slices.IsSortedFunc(outer, rise) {
		return false
	}
	sides := map[uint64][2]int{} // of each node that is told of: how many arcs of each side it has
	heads := map[uint64]int{}
	if root < first {
		sides[root] = [2]int{}
	}
	arc := func(from, side, to, rest uint64) bool {
		if from/ids >= n || side > 1 || rest != 0 {
			return false
		}
		s := sides[from]
		s[side]++
		sides[from] = s
		if to == first || to == first+1 {
			return true
		}
		if to/ids >= n || to/ids <= from/ids {
			return false
		}
		sides[to] = sides[to]
		heads[to]++
		return true
	}
	for _, r := range inner {
		if !arc(r[1], r[2], r[0], r[3]) || r[0] >= first {
			return false
		}
	}
	for _, r := range outer {
		if !arc(r[0], r[1], r[2], r[3]) || r[2] < first {
			return false
		}
	}
	most, count := map[uint64]uint64{}, map[uint64]uint64{}
	for p, s := range sides {
		if s != [2]int{1, 1} || p != root && heads[p] == 0 {
			return false
		}
		most[p/ids] = max(most[p/ids], p%ids)
		count[p/ids]++
	}
	for l := range count {
		if most[l] != count[l]-1 {
			return false
		}
	}
	return uint64(len(sides)) == last[3]
}

// arcsOf are the arcs of two tapes, by From and Side.
func arcsOf(inner, outer []api.Rec) []api.Arc {
	var list []api.Arc
	for _, r := range inner {
		list = append(list, api.Arc{From: api.Ptr(r[1]), Side: int(r[2]), To: api.Ptr(r[0])})
	}
	for _, r := range outer[:len(outer)-1] {
		list = append(list, api.Arc{From: api.Ptr(r[0]), Side: int(r[1]), To: api.Ptr(r[2])})
	}
	slices.SortFunc(list, func(a, b api.Arc) int { return cmp.Or(cmp.Compare(a.From, b.From), a.Side-b.Side) })
	return list
}

func infoOf(r api.Rec) api.Info {
	return api.Info{Vars: int(r[1]), Root: api.Ptr(r[2]), Nodes: int(r[3])}
}

// judge lays two tapes and holds what Arcs says of them against the words. P8.7.
func judge(t *testing.T, k int, inner, outer []api.Rec) bool {
	t.Helper()
	b := mount(t, holds(t, k, arcs(inner, outer)...), api.LeastK*k)
	list, info, e := sweep.Arcs(b.Desk, "a")
	if areSound(inner, outer) {
		if want := arcsOf(inner, outer); e != api.OK || info != infoOf(outer[len(outer)-1]) || !slices.Equal(list, want) {
			t.Fatalf("K %d: Arcs of %v and %v: %v, %+v, %d", k, inner, outer, list, info, e)
		}
	} else if e != api.ErrArcs || len(list) > 0 || info != (api.Info{}) {
		t.Fatalf("K %d: Arcs of %v and %v: %v, %+v, %d, want ErrArcs", k, inner, outer, list, info, e)
	}
	b.asBefore("Arcs")
	return e == api.OK
}

// small are two tapes over 3 levels with five nodes: 0:0 to 1:0 and 1:1; 1:0 to F and 2:0; 1:1 to 2:0 and 2:1; both leaves below.
func small() (inner, outer []api.Rec) {
	p := func(level, id int) uint64 { return uint64(at(level, id)) }
	inner = []api.Rec{{p(1, 0), 0, 0}, {p(1, 1), 0, 1}, {p(2, 0), p(1, 0), 1}, {p(2, 0), p(1, 1), 0}, {p(2, 1), p(1, 1), 1}}
	outer = []api.Rec{{p(1, 0), 0, uint64(F)}, {p(2, 0), 0, uint64(F)}, {p(2, 0), 1, uint64(T)}, {p(2, 1), 0, uint64(T)}, {p(2, 1), 1, uint64(T)}, end(3, 0, 5)}
	return inner, outer
}

// TestArcsEachKindOfUnsound: one thing wrong, of each kind that DOC.md tells. P8.7.
func TestArcsEachKindOfUnsound(t *testing.T) {
	p := func(level, id int) uint64 { return uint64(at(level, id)) }
	leaf0, leaf1 := uint64(F), uint64(T)
	for what, change := range map[string]func(inner, outer []api.Rec) ([]api.Rec, []api.Rec){
		"no record":                   func(i, o []api.Rec) ([]api.Rec, []api.Rec) { return i, nil },
		"no end":                      func(i, o []api.Rec) ([]api.Rec, []api.Rec) { return i, o[:5] },
		"two ends":                    func(i, o []api.Rec) ([]api.Rec, []api.Rec) { return i, append(o, o[5]) },
		"an end ahead":                func(i, o []api.Rec) ([]api.Rec, []api.Rec) { return i, append([]api.Rec{o[5]}, o...) },
		"another end ahead":           func(i, o []api.Rec) ([]api.Rec, []api.Rec) { return i, slices.Insert(o, 5, end(0, 0, 0)) },
		"an end among the inner ones": func(i, o []api.Rec) ([]api.Rec, []api.Rec) { return append(i, o[5]), o },
		"more levels than may be":     func(i, o []api.Rec) ([]api.Rec, []api.Rec) { o[5][1] = 65537; return i, o },
		"levels without end":          func(i, o []api.Rec) ([]api.Rec, []api.Rec) { o[5][1] = 1<<63 + 3; return i, o },
		"a level that is not there":   func(i, o []api.Rec) ([]api.Rec, []api.Rec) { o[5][1] = 2; return i, o },
		"no levels":                   func(i, o []api.Rec) ([]api.Rec, []api.Rec) { o[5][1] = 0; return i, o },
		"a node too many in the end":  func(i, o []api.Rec) ([]api.Rec, []api.Rec) { o[5][3] = 6; return i, o },
		"a node too few in the end":   func(i, o []api.Rec) ([]api.Rec, []api.Rec) { o[5][3] = 4; return i, o },
		"nodes without end":           func(i, o []api.Rec) ([]api.Rec, []api.Rec) { o[5][3] = 1 << 63; return i, o },
		"as many nodes as may be":     func(i, o []api.Rec) ([]api.Rec, []api.Rec) { o[5][3] = 1<<63 - 1; return i, o },
		"no nodes in the end":         func(i, o []api.Rec) ([]api.Rec, []api.Rec) { o[5][3] = 0; return i, o },
		"twice as many and around":    func(i, o []api.Rec) ([]api.Rec, []api.Rec) { o[5][3] = 1<<62 + 5; return i, o },
		"a root that is a leaf":       func(i, o []api.Rec) ([]api.Rec, []api.Rec) { o[5][2] = leaf1; return i, o },
		"a leaf without nodes":        func(i, o []api.Rec) ([]api.Rec, []api.Rec) { o[5] = end(3, F, 0); return i, o },
		"a root that is another node": func(i, o []api.Rec) ([]api.Rec, []api.Rec) { o[5][2] = p(1, 0); return i, o },
		"a root that is not there":    func(i, o []api.Rec) ([]api.Rec, []api.Rec) { o[5][2] = 1; return i, o },
		"a root that is no pointer":   func(i, o []api.Rec) ([]api.Rec, []api.Rec) { o[5][2] = leaf1 + 1; return i, o },
		"a fourth word, inner":        func(i, o []api.Rec) ([]api.Rec, []api.Rec) { i[2][3] = 1; return i, o },
		"a fourth word, outer":        func(i, o []api.Rec) ([]api.Rec, []api.Rec) { o[2][3] = 1 << 63; return i, o },
		"a side 2, inner":             func(i, o []api.Rec) ([]api.Rec, []api.Rec) { i[4][2] = 2; return i, o },
		"a side 2, outer":             func(i, o []api.Rec) ([]api.Rec, []api.Rec) { o[4][1] = 2; return i, o },
		"a side without end":          func(i, o []api.Rec) ([]api.Rec, []api.Rec) { o[4][1] = 1<<64 - 1; return i, o },
		"a leaf among the inner ones": func(i, o []api.Rec) ([]api.Rec, []api.Rec) { i[4][0] = leaf0; return i, o },
		"a node among the outer ones": func(i, o []api.Rec) ([]api.Rec, []api.Rec) { o[0][2] = p(2, 0); return i, o },
		"no leaf":                     func(i, o []api.Rec) ([]api.Rec, []api.Rec) { o[0][2] = leaf1 + 1; return i, o },
		"from a leaf":                 func(i, o []api.Rec) ([]api.Rec, []api.Rec) { o[4][0] = leaf1; return i, o },
		"from no pointer":             func(i, o []api.Rec) ([]api.Rec, []api.Rec) { i[4][1] = 1 << 62; return i, o },
		"a side that is missing":      func(i, o []api.Rec) ([]api.Rec, []api.Rec) { return i, slices.Delete(o, 0, 1) },
		"a side that is there twice":  func(i, o []api.Rec) ([]api.Rec, []api.Rec) { o[4][1] = 0; return i, o },
		"a side to two leaves":        func(i, o []api.Rec) ([]api.Rec, []api.Rec) { return i, slices.Insert(o, 1, api.Rec{p(1, 0), 0, leaf1}) },
		"a side to a node and a leaf": func(i, o []api.Rec) ([]api.Rec, []api.Rec) { return i, slices.Insert(o, 1, api.Rec{p(1, 0), 1, leaf1}) },
		"an equal record":             func(i, o []api.Rec) ([]api.Rec, []api.Rec) { return i, slices.Insert(o, 1, o[0]) },
		"an equal inner record":       func(i, o []api.Rec) ([]api.Rec, []api.Rec) { return slices.Insert(i, 1, i[0]), o },
		"a fall":                      func(i, o []api.Rec) ([]api.Rec, []api.Rec) { o[1], o[2] = o[2], o[1]; return i, o },
		"an inner fall":               func(i, o []api.Rec) ([]api.Rec, []api.Rec) { i[2], i[3] = i[3], i[2]; return i, o },
		"an id that is left out":      func(i, o []api.Rec) ([]api.Rec, []api.Rec) { i[4][0]++; o[3][0]++; o[4][0]++; return i, o },
		"a root whose id is 1":        func(i, o []api.Rec) ([]api.Rec, []api.Rec) { i[0][1], i[1][1], o[5][2] = 1, 1, 1; return i, o },
		"a level that begins with 1": func(i, o []api.Rec) ([]api.Rec, []api.Rec) {
			for j := 2; j < 5; j++ {
				i[j][0]++
			}
			for j := 1; j < 5; j++ {
				o[j][0]++
			}
			return i, o
		},
		"the greatest id": func(i, o []api.Rec) ([]api.Rec, []api.Rec) {
			i[4][0] = 3<<40 - 1
			o[3][0], o[4][0] = 3<<40-1, 3<<40-1
			return i, o
		},
		"an arc to its own level":    func(i, o []api.Rec) ([]api.Rec, []api.Rec) { i[2][0] = p(1, 1); return i, o },
		"an arc up":                  func(i, o []api.Rec) ([]api.Rec, []api.Rec) { i[0][0] = 0; i[0][1] = p(1, 0); return i, o },
		"a node that nobody goes to": func(i, o []api.Rec) ([]api.Rec, []api.Rec) { i[4][0] = p(2, 0); return i, o },
		"a node without arcs":        func(i, o []api.Rec) ([]api.Rec, []api.Rec) { o[5][3] = 4; return i, slices.Delete(o, 3, 5) },
		"another node without arcs":  func(i, o []api.Rec) ([]api.Rec, []api.Rec) { i[4][0]++; return i, o },
		"two nodes beside the root": func(i, o []api.Rec) ([]api.Rec, []api.Rec) {
			return i, append(slices.Insert(o[:5], 0, api.Rec{1, 0, leaf0}, api.Rec{1, 1, leaf1}), end(3, 0, 6))
		},
		"a level that has fewer heads": func(i, o []api.Rec) ([]api.Rec, []api.Rec) {
			i[1] = api.Rec{p(2, 2), 0, 1}
			i[1], i[4] = i[4], i[1]
			return i, o
		},
	} {
		for _, k := range []int{1, 2, 40} {
			inner, outer := change(small())
			if judge(t, k, inner, outer) {
				t.Errorf("%s: it is sound", what)
			}
		}
	}
	for _, k := range []int{1, 2, 40} {
		inner, outer := small()
		if !judge(t, k, inner, outer) {
			t.Error("the small one is not sound")
		}
		outer[5][1] = 65536 // more levels than are used
		if !judge(t, k, inner, outer) || !judge(t, k, nil, []api.Rec{end(0, T, 0)}) || !judge(t, k, nil, []api.Rec{end(65536, F, 0)}) {
			t.Error("it is not sound")
		}
	}
}

// odd are numbers that a record may have in the place of others.
func odd() []uint64 {
	return []uint64{0, 1, 2, 3, uint64(at(1, 0)), uint64(at(1, 1)), uint64(at(2, 0)), uint64(at(2, 2)), uint64(at(3, 0)), 1<<40 - 1, 1<<56 - 1, 1 << 56, 1 << 62, 1 << 63, 1<<63 + 1, 1<<63 + 2, api.Mark, api.Mark - 1}
}

// bendArcs changes two tapes in one place.
func (r *dice) bendArcs(inner, outer []api.Rec) ([]api.Rec, []api.Rec) {
	lists := [2][]api.Rec{slices.Clone(inner), slices.Clone(outer)}
	x := &lists[r.below(2)]
	if len(*x) == 0 {
		x = &lists[1]
	}
	i := r.below(len(*x))
	switch r.below(6) {
	case 0:
		(*x)[i][r.below(4)] = odd()[r.below(len(odd()))]
	case 1:
		y := lists[1]
		(*x)[i][r.below(3)] = y[r.below(len(y))][r.below(3)]
	case 2:
		j := r.below(len(*x))
		(*x)[i], (*x)[j] = (*x)[j], (*x)[i]
	case 3:
		if len(*x) > 1 {
			*x = slices.Delete(*x, i, i+1)
		}
	case 4:
		*x = slices.Insert(*x, i, (*x)[r.below(len(*x))])
	case 5:
		(*x)[i][r.below(4)] += 1 << (40 * r.below(2))
	}
	if r.below(2) == 0 { // a fall would hide all else
		rise := func(a, b api.Rec) int { return slices.Compare(a[:], b[:]) }
		slices.SortFunc(lists[0], rise)
		slices.SortFunc(lists[1], rise)
	}
	return lists[0], lists[1]
}

// TestArcsOfBentTapes: tapes of the five, changed here and there. P8.7.
func TestArcsOfBentTapes(t *testing.T) {
	r := dice(10)
	sound := 0
	for range 150 {
		n := 1 + r.below(4)
		x := trioOf(n, r.table(n), r.thin(n), r.table(n))
		all := x.jobs(&r)
		j := all[r.below(len(all))]
		k := 1 + r.below(3)
		if !judge(t, k, j.inner, j.outer) {
			t.Fatalf("%s is not sound", j.what)
		}
		for range 20 {
			inner, outer := r.bendArcs(j.inner, j.outer)
			if judge(t, k, inner, outer) {
				sound++
			}
			inner, outer = r.bendArcs(inner, outer)
			judge(t, k, inner, outer)
		}
	}
	if sound == 0 {
		t.Error("none of the bent ones is sound")
	}
}

// TestArcsOfAnyRecords: hand-made records of numbers of any size. P8.7, G1.
func TestArcsOfAnyRecords(t *testing.T) {
	r := dice(11)
	record := func() api.Rec {
		var rec api.Rec
		for w := range rec {
			rec[w] = odd()[r.below(len(odd()))] + uint64(r.below(2))
		}
		return rec
	}
	for range 3000 {
		var inner, outer []api.Rec
		for range r.below(4) {
			inner = append(inner, record())
		}
		for range r.below(3) {
			outer = append(outer, record())
		}
		if r.below(4) > 0 {
			outer = append(outer, end(r.below(4), api.Ptr(odd()[r.below(len(odd()))]), r.below(3)))
		}
		judge(t, 1+r.below(3), inner, outer)
	}
}

// TestArcsRefuses: in the order of G7. P8.7.
func TestArcsRefuses(t *testing.T) {
	inner, outer := small()
	tapes := append(arcs(inner, outer),
		strip{"raw.i", api.KindRaw, inner}, strip{"raw.o", api.KindOuter, outer},
		strip{"nodes.i", api.KindInner, inner}, strip{"nodes.o", api.KindNodes, outer},
		strip{"half.i", api.KindInner, inner}, strip{"other.o", api.KindOuter, outer},
		strip{"none.i", api.KindRaw, inner}, strip{"none.o", api.KindOuter, nil},
		strip{"bad.i", api.KindRaw, inner}, strip{"bad.o", api.KindOuter, outer[:3]},
	)
	was := holds(t, 2, tapes...)
	for name, want := range map[string]api.Errno{
		"a": api.OK, "raw": api.ErrKind, "nodes": api.ErrKind, "half": api.ErrNoFile, "other": api.ErrNoFile, "no": api.ErrNoFile, "": api.ErrNoFile, "A": api.ErrName,
		"none": api.ErrArcs, "bad": api.ErrArcs, // the end of the outer tape comes ahead of the inner tape
	} {
		for _, free := range []int{128, 127, 0} {
			b := mount(t, was, free)
			if free < 128 && want != api.ErrNoFile && want != api.ErrName {
				want = api.ErrBudget
			}
			list, info, e := sweep.Arcs(b.Desk, name)
			if e != want || e != api.OK && (len(list) > 0 || info != api.Info{}) {
				t.Errorf("Arcs(%q) with %d free: %v, %+v, %d, want %d", name, free, list, info, e, want)
			}
			b.asBefore(name)
			if want == api.ErrBudget && b.Disk().Counts().Calls > 0 {
				t.Errorf("Arcs(%q): the disk was asked", name)
			}
			b.is("a nil desk", third(sweep.Arcs(nil, name)), api.ErrArg)
		}
	}
	// Each kind of what is no end is told ahead of the inner tape, which is none.
	for _, last := range []api.Rec{
		{api.Mark - 1, 3, 0, 5}, {0, 3, 0, 5}, {api.Mark, 65537, 0, 5}, {api.Mark, 1 << 63, 0, 5}, {api.Mark, api.Mark, uint64(T), 0},
		{api.Mark, 3, uint64(T) + 1, 5}, {api.Mark, 3, 1 << 62, 5}, {api.Mark, 3, uint64(at(3, 0)), 5}, {api.Mark, 0, 0, 5}, {api.Mark, 3, api.Mark, 5},
		{api.Mark, 3, uint64(T), 1}, {api.Mark, 3, uint64(F), 1 << 63}, {api.Mark, 3, 0, 0}, {api.Mark, 3, 0, 1 << 63}, {api.Mark, 3, 0, api.Mark},
	} {
		tapes := arcs(inner, append(outer[:5:5], last))
		tapes[0].kind = api.KindRaw
		b := mount(t, holds(t, 2, tapes...), 128)
		b.is(last, third(sweep.Arcs(b.Desk, "a")), api.ErrArcs)
		tapes[1].list[5] = end(3, at(2, 7), 99)
		b = mount(t, holds(t, 2, tapes...), 128)
		b.is("an end", third(sweep.Arcs(b.Desk, "a")), api.ErrKind)
	}
	b := mount(t, was, 128)
	for _, open := range []string{"one.i", "one.o"} {
		b.Disk().Create(open)
		if open == "one.i" {
			b.is(open, third(sweep.Arcs(b.Desk, "one")), api.ErrOpen)
			b.Disk().Seal(open)
			b.is(open, third(sweep.Arcs(b.Desk, "one")), api.ErrNoFile)
			continue
		}
		b.is(open, third(sweep.Arcs(b.Desk, "one")), api.ErrOpen)
		b.Disk().Seal(open)
		b.is(open, third(sweep.Arcs(b.Desk, "one")), api.ErrArcs)
	}
}

// lay hands a list to Lay and holds what it does against the words. P8.8.
func lay(t *testing.T, k int, list []api.Arc, info api.Info) api.Errno {
	t.Helper()
	inner, outer := []api.Rec{}, []api.Rec{}
	for _, a := range list {
		if a.To == F || a.To == T {
			outer = append(outer, api.Rec{uint64(a.From), uint64(a.Side), uint64(a.To)})
		} else {
			inner = append(inner, api.Rec{uint64(a.To), uint64(a.From), uint64(a.Side)})
		}
	}
	rise := func(a, b api.Rec) int { return slices.Compare(a[:], b[:]) }
	slices.SortFunc(inner, rise)
	slices.SortFunc(outer, rise)
	outer = append(outer, api.Rec{api.Mark, uint64(info.Vars), uint64(info.Root), uint64(info.Nodes)})
	want := api.OK
	if info.Vars < 0 || info.Nodes < 0 || !areSound(inner, outer) {
		want = api.ErrArcs
	}
	b := mount(t, holds(t, k), api.LeastK*k)
	was := slices.Clone(list)
	e := sweep.Lay(b.Desk, list, info, "out")
	if e != want {
		t.Fatalf("Lay of %v, %+v: %d, want %d", list, info, e, want)
	}
	if !slices.Equal(list, was) {
		t.Fatalf("Lay has changed the list")
	}
	if e != api.OK {
		b.asBefore("Lay")
		return e
	}
	b.made("Lay", "out", inner, outer)
	return e
}

// TestLay: lists in any order, changed here and there. P8.8, G3.
func TestLay(t *testing.T) {
	r := dice(12)
	counts := map[api.Errno]int{}
	for range 200 {
		n := 1 + r.below(4)
		x := trioOf(n, r.table(n), r.thin(n), r.table(n))
		all := x.jobs(&r)
		j := all[r.below(len(all))]
		list, info := arcsOf(j.inner, j.outer), infoOf(j.outer[len(j.outer)-1])
		for i := range list {
			o := r.below(i + 1)
			list[i], list[o] = list[o], list[i]
		}
		k := 1 + r.below(3)
		if e := lay(t, k, list, info); e != api.OK {
			t.Fatalf("%s: %d", j.what, e)
		}
		for range 20 {
			bent, said := slices.Clone(list), info
			for range 1 + r.below(2) {
				bent, said = r.bendList(bent, said)
			}
			counts[lay(t, k, bent, said)]++
		}
	}
	if counts[api.OK] == 0 || counts[api.ErrArcs] == 0 {
		t.Errorf("the bent ones are answered %v", counts)
	}
}

// bendList changes a list of arcs, or what ends it, in one place.
func (r *dice) bendList(list []api.Arc, info api.Info) ([]api.Arc, api.Info) {
	ints := []int{-1, 0, 1, 2, 3, math.MinInt, math.MaxInt, 65536, 65537, 1 << 62}
	word := api.Ptr(odd()[r.below(len(odd()))])
	switch r.below(4) {
	case 0:
		switch r.below(3) {
		case 0:
			info.Vars = ints[r.below(len(ints))]
		case 1:
			info.Root = word
		case 2:
			info.Nodes = ints[r.below(len(ints))]
		}
		return list, info
	case 1:
		return append(list, api.Arc{From: word, Side: r.below(2), To: T}), info
	}
	if len(list) == 0 {
		return list, info
	}
	a := &list[r.below(len(list))]
	switch r.below(5) {
	case 0:
		a.From = word
	case 1:
		a.To = word
	case 2:
		a.Side = ints[r.below(len(ints))]
	case 3:
		a.To = list[r.below(len(list))].From
	case 4:
		list = append(list[:len(list)-1:len(list)-1], *a)
	}
	return list, info
}

// TestLayRefuses: in its order. P8.8.
func TestLayRefuses(t *testing.T) {
	inner, outer := small()
	list, info := arcsOf(inner, outer), infoOf(outer[5])
	was := holds(t, 2, strip{"there.i", api.KindRaw, nil}, strip{"here.o", api.KindRaw, nil})
	bad := info
	bad.Nodes++
	for _, c := range []struct {
		info api.Info
		out  string
		free int
		want api.Errno
	}{
		{info, "out", 128, api.OK}, {bad, "A", 0, api.ErrArcs}, {bad, "there", 128, api.ErrArcs}, {bad, "out", 128, api.ErrArcs},
		{info, "A", 0, api.ErrName}, {info, "there", 0, api.ErrExists}, {info, "here", 0, api.ErrExists}, {info, "out", 127, api.ErrBudget},
		{api.Info{Vars: -1, Root: T}, "A", 0, api.ErrArcs}, {api.Info{Vars: 65537, Root: T}, "A", 0, api.ErrArcs},
	} {
		b := mount(t, was, c.free)
		b.is(c, sweep.Lay(nil, list, c.info, c.out), api.ErrArg)
		b.is(c, sweep.Lay(b.Desk, list, c.info, c.out), c.want)
		if c.want == api.OK {
			b.made(c, c.out, inner, outer)
		} else {
			b.asBefore(c)
		}
	}
	for _, n := range []int{-1, 0, 1, 65536, 65537, math.MaxInt, math.MinInt} {
		lay(t, 1, nil, api.Info{Vars: n, Root: F})
		lay(t, 1, []api.Arc{}, api.Info{Vars: n, Root: T})
		lay(t, 1, list, api.Info{Vars: n, Root: 0, Nodes: 5})
		lay(t, 1, nil, api.Info{Vars: 3, Root: T, Nodes: n})
		lay(t, 1, nil, api.Info{Vars: 3, Root: 0, Nodes: n})
	}
}

// TestThereAndBack: Arcs of what Lay made, Lay of what Arcs told, and both of what the five make. P8.10.
func TestThereAndBack(t *testing.T) {
	r := dice(13)
	for n := range 6 {
		x := trioOf(n, r.table(n), r.table(n), r.thin(n))
		for _, j := range x.jobs(&r) {
			b := lie(t, 1+r.below(4), x.lists[:]...)
			b.run(j)
			list, info, e := sweep.Arcs(b.Desk, "out")
			b.is(j.what, e, api.OK)
			if !slices.Equal(list, arcsOf(j.inner, j.outer)) || info != infoOf(j.outer[len(j.outer)-1]) {
				t.Fatalf("%s: Arcs: %v, %+v", j.what, list, info)
			}
			b.is(j.what, sweep.Lay(b.Desk, list, info, "again"), api.OK)
			b.clear("out")
			b.made(j.what, "again", j.inner, j.outer)
			same, also, e := sweep.Arcs(b.Desk, "again")
			if !slices.Equal(same, list) || also != info || e != api.OK {
				t.Fatalf("%s: Arcs again: %v, %+v, %d", j.what, same, also, e)
			}
		}
	}
}

// TestArcsIsNewMemory: what is answered shares nothing with what is answered next, its spare room too. G3.
func TestArcsIsNewMemory(t *testing.T) {
	inner, outer := small()
	b := mount(t, holds(t, 2, arcs(inner, outer)...), 128)
	list, _, _ := sweep.Arcs(b.Desk, "a")
	want := slices.Clone(list)
	for i := range list[:cap(list)] {
		list[:cap(list)][i] = api.Arc{From: 9, Side: 9, To: 9}
	}
	again, _, e := sweep.Arcs(b.Desk, "a")
	if !slices.Equal(again, want) || e != api.OK {
		t.Errorf("%v, %d", again, e)
	}
	room := append(slices.Clone(want), api.Arc{From: 7}, api.Arc{To: 8})
	was := slices.Clone(room)
	b.is("Lay", sweep.Lay(b.Desk, room[:len(want)], infoOf(outer[5]), "out"), api.OK)
	if !slices.Equal(room, was) {
		t.Errorf("the spare room is %v, was %v", room, was)
	}
}
