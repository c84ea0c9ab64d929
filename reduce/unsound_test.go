package reduce_test

import (
	"slices"
	"testing"

	"strata/api"
	"strata/reduce"
)

// isEnd tells whether a record is an end of arcs.
func isEnd(r api.Rec) bool {
	n, root, c := r[1], r[2], r[3]
	if r[0] != ^uint64(0) || n > 65536 || c >= 1<<63 {
		return false
	}
	if root == first || root == first+1 {
		return c == 0
	}
	return root/ids < n && c > 0
}

// areSound tells whether two tapes are sound, by the words of DOC.md.
func areSound(inner, outer []api.Rec) bool {
	if len(outer) == 0 || !isEnd(outer[len(outer)-1]) {
		return false
	}
	last := outer[len(outer)-1]
	outer = outer[:len(outer)-1]
	n, root := last[1], last[2]
	rise := func(a, b api.Rec) int { return slices.Compare(a[:], b[:]) }
	if !slices.IsSortedFunc(inner, rise) || !slices.IsSortedFunc(outer, rise) {
		return false
	}
	sides := map[uint64][2]int{} // of each node that is told of: how many arcs of each side it has
	heads := map[uint64]int{}
	if root < first {
		sides[root] = [2]int{}
	}
	arc := func(from, side, to, rest uint64) bool {
		if from/ids >= n || side > 1 || rest != 0 {
			return false
		}
		s := sides[from]
		s[side]++
		sides[from] = s
		if to == first || to == first+1 {
			return true
		}
		if to/ids >= n || to/ids <= from/ids {
			return false
		}
		sides[to] = sides[to]
		heads[to]++
		return true
	}
	for _, r := range inner {
		if !arc(r[1], r[2], r[0], r[3]) || r[0] >= first {
			return false
		}
	}
	for _, r := range outer {
		if !arc(r[0], r[1], r[2], r[3]) || r[2] < first {
			return false
		}
	}
	most, count := map[uint64]uint64{}, map[uint64]uint64{}
	for p, s := range sides {
		if s != [2]int{1, 1} || p != root && heads[p] == 0 {
			return false
		}
		most[p/ids] = max(most[p/ids], p%ids)
		count[p/ids]++
	}
	for l := range count {
		if most[l] != count[l]-1 {
			return false
		}
	}
	return uint64(len(sides)) == last[3]
}

// judge reduces two tapes, whatever they are. What is not sound is told, and all is as before; the function of what is sound is reduced. P9.1, G8.
func judge(t *testing.T, k int, inner, outer []api.Rec) bool {
	t.Helper()
	b := mount(t, holds(t, k, arcs(inner, outer)...), api.LeastK*k)
	if !areSound(inner, outer) {
		b.is([]any{inner, outer}, reduce.Reduce(b.Desk, "a", "out"), api.ErrArcs)
		b.asBefore([]any{inner, outer})
		return false
	}
	b.is([]any{inner, outer}, reduce.Reduce(b.Desk, "a", "out"), api.OK)
	if last := outer[len(outer)-1]; last[1] < 12 {
		b.made([]any{inner, outer}, "out", canon(int(last[1]), means(inner, outer)))
	}
	return true
}

// small are two tapes over 3 levels with five nodes: 0:0 to 1:0 and 1:1; 1:0 to F and 2:0; 1:1 to 2:0 and 2:1; both leaves below.
func small() (inner, outer []api.Rec) {
	p := func(level, id int) uint64 { return uint64(at(level, id)) }
	inner = []api.Rec{{p(1, 0), 0, 0}, {p(1, 1), 0, 1}, {p(2, 0), p(1, 0), 1}, {p(2, 0), p(1, 1), 0}, {p(2, 1), p(1, 1), 1}}
	outer = []api.Rec{{p(1, 0), 0, uint64(F)}, {p(2, 0), 0, uint64(F)}, {p(2, 0), 1, uint64(T)}, {p(2, 1), 0, uint64(T)}, {p(2, 1), 1, uint64(T)}, end(3, 0, 5)}
	return inner, outer
}

// TestEachKindOfUnsound: one thing wrong, of each kind that DOC.md tells. G8.
func TestEachKindOfUnsound(t *testing.T) {
	p := func(level, id int) uint64 { return uint64(at(level, id)) }
	leaf0, leaf1 := uint64(F), uint64(T)
	for what, change := range map[string]func(inner, outer []api.Rec) ([]api.Rec, []api.Rec){
		"no record":                   func(i, o []api.Rec) ([]api.Rec, []api.Rec) { return i, nil },
		"no end":                      func(i, o []api.Rec) ([]api.Rec, []api.Rec) { return i, o[:5] },
		"two ends":                    func(i, o []api.Rec) ([]api.Rec, []api.Rec) { return i, append(o, o[5]) },
		"an end ahead":                func(i, o []api.Rec) ([]api.Rec, []api.Rec) { return i, append([]api.Rec{o[5]}, o...) },
		"another end ahead":           func(i, o []api.Rec) ([]api.Rec, []api.Rec) { return i, slices.Insert(o, 5, end(0, 0, 0)) },
		"an end among the inner ones": func(i, o []api.Rec) ([]api.Rec, []api.Rec) { return append(i, o[5]), o },
		"more levels than may be":     func(i, o []api.Rec) ([]api.Rec, []api.Rec) { o[5][1] = 65537; return i, o },
		"levels without end":          func(i, o []api.Rec) ([]api.Rec, []api.Rec) { o[5][1] = 1<<63 + 3; return i, o },
		"a level that is not there":   func(i, o []api.Rec) ([]api.Rec, []api.Rec) { o[5][1] = 2; return i, o },
		"no levels":                   func(i, o []api.Rec) ([]api.Rec, []api.Rec) { o[5][1] = 0; return i, o },
		"a node too many in the end":  func(i, o []api.Rec) ([]api.Rec, []api.Rec) { o[5][3] = 6; return i, o },
		"a node too few in the end":   func(i, o []api.Rec) ([]api.Rec, []api.Rec) { o[5][3] = 4; return i, o },
		"nodes without end":           func(i, o []api.Rec) ([]api.Rec, []api.Rec) { o[5][3] = 1 << 63; return i, o },
		"as many nodes as may be":     func(i, o []api.Rec) ([]api.Rec, []api.Rec) { o[5][3] = 1<<63 - 1; return i, o },
		"no nodes in the end":         func(i, o []api.Rec) ([]api.Rec, []api.Rec) { o[5][3] = 0; return i, o },
		"twice as many and around":    func(i, o []api.Rec) ([]api.Rec, []api.Rec) { o[5][3] = 1<<62 + 5; return i, o },
		"a root that is a leaf":       func(i, o []api.Rec) ([]api.Rec, []api.Rec) { o[5][2] = leaf1; return i, o },
		"a leaf without nodes":        func(i, o []api.Rec) ([]api.Rec, []api.Rec) { o[5] = end(3, F, 0); return i, o },
		"a root that is another node": func(i, o []api.Rec) ([]api.Rec, []api.Rec) { o[5][2] = p(1, 0); return i, o },
		"a root that is not there":    func(i, o []api.Rec) ([]api.Rec, []api.Rec) { o[5][2] = 1; return i, o },
		"a root that is no pointer":   func(i, o []api.Rec) ([]api.Rec, []api.Rec) { o[5][2] = leaf1 + 1; return i, o },
		"a fourth word, inner":        func(i, o []api.Rec) ([]api.Rec, []api.Rec) { i[2][3] = 1; return i, o },
		"a fourth word, outer":        func(i, o []api.Rec) ([]api.Rec, []api.Rec) { o[2][3] = 1 << 63; return i, o },
		"a side 2, inner":             func(i, o []api.Rec) ([]api.Rec, []api.Rec) { i[4][2] = 2; return i, o },
		"a side 2, outer":             func(i, o []api.Rec) ([]api.Rec, []api.Rec) { o[4][1] = 2; return i, o },
		"a side 2 for another node":   func(i, o []api.Rec) ([]api.Rec, []api.Rec) { i[3] = api.Rec{p(2, 0), p(1, 0), 2}; return i, o },
		"a node that is no pointer": func(i, o []api.Rec) ([]api.Rec, []api.Rec) {
			return i, append(o[:5:5], api.Rec{1 << 62, 0, leaf0}, api.Rec{1 << 62, 1, leaf1}, end(3, 0, 6))
		},
		"a node that is a leaf": func(i, o []api.Rec) ([]api.Rec, []api.Rec) {
			return i, append(o[:5:5], api.Rec{leaf1, 0, leaf0}, api.Rec{leaf1, 1, leaf1}, end(65536, 0, 6))
		},
		"a node of a level that is not there": func(i, o []api.Rec) ([]api.Rec, []api.Rec) {
			return i, append(o[:5:5], api.Rec{p(3, 0), 0, leaf0}, api.Rec{p(3, 0), 1, leaf1}, end(3, 0, 6))
		},
		"a side without end":          func(i, o []api.Rec) ([]api.Rec, []api.Rec) { o[4][1] = 1<<64 - 1; return i, o },
		"a leaf among the inner ones": func(i, o []api.Rec) ([]api.Rec, []api.Rec) { i[4][0] = leaf0; return i, o },
		"a node among the outer ones": func(i, o []api.Rec) ([]api.Rec, []api.Rec) { o[0][2] = p(2, 0); return i, o },
		"no leaf":                     func(i, o []api.Rec) ([]api.Rec, []api.Rec) { o[0][2] = leaf1 + 1; return i, o },
		"from a leaf":                 func(i, o []api.Rec) ([]api.Rec, []api.Rec) { o[4][0] = leaf1; return i, o },
		"from no pointer":             func(i, o []api.Rec) ([]api.Rec, []api.Rec) { i[4][1] = 1 << 62; return i, o },
		"a side that is missing":      func(i, o []api.Rec) ([]api.Rec, []api.Rec) { return i, slices.Delete(o, 0, 1) },
		"a side that is there twice":  func(i, o []api.Rec) ([]api.Rec, []api.Rec) { o[4][1] = 0; return i, o },
		"a side to two leaves":        func(i, o []api.Rec) ([]api.Rec, []api.Rec) { return i, slices.Insert(o, 1, api.Rec{p(1, 0), 0, leaf1}) },
		"a side to a node and a leaf": func(i, o []api.Rec) ([]api.Rec, []api.Rec) { return i, slices.Insert(o, 1, api.Rec{p(1, 0), 1, leaf1}) },
		"an equal record":             func(i, o []api.Rec) ([]api.Rec, []api.Rec) { return i, slices.Insert(o, 1, o[0]) },
		"an equal inner record":       func(i, o []api.Rec) ([]api.Rec, []api.Rec) { return slices.Insert(i, 1, i[0]), o },
		"a fall":                      func(i, o []api.Rec) ([]api.Rec, []api.Rec) { o[1], o[2] = o[2], o[1]; return i, o },
		"an inner fall":               func(i, o []api.Rec) ([]api.Rec, []api.Rec) { i[2], i[3] = i[3], i[2]; return i, o },
		"an id that is left out":      func(i, o []api.Rec) ([]api.Rec, []api.Rec) { i[4][0]++; o[3][0]++; o[4][0]++; return i, o },
		"a root whose id is 1":        func(i, o []api.Rec) ([]api.Rec, []api.Rec) { i[0][1], i[1][1], o[5][2] = 1, 1, 1; return i, o },
		"a level that begins with 1": func(i, o []api.Rec) ([]api.Rec, []api.Rec) {
			for j := 2; j < 5; j++ {
				i[j][0]++
			}
			for j := 1; j < 5; j++ {
				o[j][0]++
			}
			return i, o
		},
		"the greatest id": func(i, o []api.Rec) ([]api.Rec, []api.Rec) {
			i[4][0] = 3<<40 - 1
			o[3][0], o[4][0] = 3<<40-1, 3<<40-1
			return i, o
		},
		"an arc to its own level":    func(i, o []api.Rec) ([]api.Rec, []api.Rec) { i[2][0] = p(1, 1); return i, o },
		"an arc up":                  func(i, o []api.Rec) ([]api.Rec, []api.Rec) { i[0][0] = 0; i[0][1] = p(1, 0); return i, o },
		"a node that nobody goes to": func(i, o []api.Rec) ([]api.Rec, []api.Rec) { i[4][0] = p(2, 0); return i, o },
		"a node without arcs":        func(i, o []api.Rec) ([]api.Rec, []api.Rec) { o[5][3] = 4; return i, slices.Delete(o, 3, 5) },
		"another node without arcs":  func(i, o []api.Rec) ([]api.Rec, []api.Rec) { i[4][0]++; return i, o },
		"two nodes beside the root": func(i, o []api.Rec) ([]api.Rec, []api.Rec) {
			return i, append(slices.Insert(o[:5], 0, api.Rec{1, 0, leaf0}, api.Rec{1, 1, leaf1}), end(3, 0, 6))
		},
		"a level that has fewer heads": func(i, o []api.Rec) ([]api.Rec, []api.Rec) {
			i[1] = api.Rec{p(2, 2), 0, 1}
			i[1], i[4] = i[4], i[1]
			return i, o
		},
	} {
		for _, k := range []int{1, 2, 40} {
			inner, outer := change(small())
			if judge(t, k, inner, outer) {
				t.Errorf("%s: it is sound", what)
			}
		}
	}
	for _, k := range []int{1, 2, 40} {
		inner, outer := small()
		if !judge(t, k, inner, outer) {
			t.Error("the small one is not sound")
		}
		outer[5][1] = 65536 // more levels than are used
		if !judge(t, k, inner, outer) || !judge(t, k, nil, []api.Rec{end(0, T, 0)}) || !judge(t, k, nil, []api.Rec{end(65536, F, 0)}) {
			t.Error("it is not sound")
		}
	}
}

// odd are numbers that a record may have in the place of others.
func odd() []uint64 {
	return []uint64{0, 1, 2, 3, uint64(at(1, 0)), uint64(at(1, 1)), uint64(at(2, 0)), uint64(at(2, 2)), uint64(at(3, 0)), 1<<40 - 1, 1<<56 - 1, 1 << 56, 1 << 62, 1 << 63, 1<<63 + 1, 1<<63 + 2, api.Mark, api.Mark - 1}
}

// bendArcs changes two tapes in one place.
func (r *dice) bendArcs(inner, outer []api.Rec) ([]api.Rec, []api.Rec) {
	lists := [2][]api.Rec{slices.Clone(inner), slices.Clone(outer)}
	x := &lists[r.below(2)]
	if len(*x) == 0 {
		x = &lists[1]
	}
	i := r.below(len(*x))
	switch r.below(6) {
	case 0:
		(*x)[i][r.below(4)] = odd()[r.below(len(odd()))]
	case 1:
		y := lists[1]
		(*x)[i][r.below(3)] = y[r.below(len(y))][r.below(3)]
	case 2:
		j := r.below(len(*x))
		(*x)[i], (*x)[j] = (*x)[j], (*x)[i]
	case 3:
		if len(*x) > 1 {
			*x = slices.Delete(*x, i, i+1)
		}
	case 4:
		*x = slices.Insert(*x, i, (*x)[r.below(len(*x))])
	case 5:
		(*x)[i][r.below(4)] += 1 << (40 * r.below(2))
	}
	if r.below(2) == 0 { // a fall would hide all else
		rise := func(a, b api.Rec) int { return slices.Compare(a[:], b[:]) }
		slices.SortFunc(lists[0], rise)
		slices.SortFunc(lists[1], rise)
	}
	return lists[0], lists[1]
}

// TestBentTapes: tapes that were sound, changed here and there. P9.1, G8.
func TestBentTapes(t *testing.T) {
	r := dice(10)
	sound, wrong := 0, 0
	count := func(ok bool) {
		if ok {
			sound++
		} else {
			wrong++
		}
	}
	for range 300 {
		n := 1 + r.below(4)
		k := 1 + r.below(3)
		g := r.puffed(r.wild(n, 4), r.below(9))
		inner, outer := g.tapes()
		if !judge(t, k, inner, outer) {
			t.Fatalf("%v is not sound", g)
		}
		for range 20 {
			inner, outer := r.bendArcs(inner, outer)
			count(judge(t, k, inner, outer))
			inner, outer = r.bendArcs(inner, outer)
			count(judge(t, k, inner, outer))
		}
	}
	if sound == 0 || wrong == 0 {
		t.Errorf("of the bent ones %d are sound, %d not", sound, wrong)
	}
}

// TestAnyRecords: hand-made records of numbers of any size. G1, G8.
func TestAnyRecords(t *testing.T) {
	r := dice(11)
	record := func() api.Rec {
		var rec api.Rec
		for w := range rec {
			rec[w] = odd()[r.below(len(odd()))] + uint64(r.below(2))
		}
		return rec
	}
	for range 5000 {
		var inner, outer []api.Rec
		for range r.below(4) {
			inner = append(inner, record())
		}
		for range r.below(3) {
			outer = append(outer, record())
		}
		if r.below(4) > 0 {
			outer = append(outer, end(r.below(4), api.Ptr(odd()[r.below(len(odd()))]), r.below(3)))
		}
		judge(t, 1+r.below(3), inner, outer)
	}
}

// TestLeftOverTapes: the inner tape of one diagram beside the outer tape of another. G8.
func TestLeftOverTapes(t *testing.T) {
	r := dice(12)
	wrong := 0
	for range 400 {
		n := 1 + r.below(4)
		inner, _ := r.wild(n, 4).tapes()
		_, outer := r.wild(n, 4).tapes()
		if !judge(t, 1+r.below(3), inner, outer) {
			wrong++
		}
	}
	if wrong == 0 {
		t.Error("all are sound")
	}
}
