package reduce_test

import (
	"testing"

	"strata/api"
	"strata/bench"
	"strata/reduce"
)

// judge reduces two tapes, whatever they are. What is not sound is told, and all is as before; the function of what is sound is reduced. P9.1, G8.
func judge(t *testing.T, k int, inner, outer []api.Rec) bool {
	t.Helper()
	b := mount(t, bench.Holds(t, k, arcs(inner, outer)...), api.LeastK*k)
	if !bench.AreSound(inner, outer) {
		b.Is([]any{inner, outer}, reduce.Reduce(b.Desk, "a", "out"), api.ErrArcs)
		b.AsBefore([]any{inner, outer})
		return false
	}
	b.Is([]any{inner, outer}, reduce.Reduce(b.Desk, "a", "out"), api.OK)
	if last := outer[len(outer)-1]; last[1] < 12 {
		b.made([]any{inner, outer}, "out", bench.Canon(int(last[1]), bench.Means(inner, outer)))
	}
	return true
}

// TestEachKindOfUnsound: one thing wrong, of each kind that DOC.md tells. G8.
func TestEachKindOfUnsound(t *testing.T) {
	for _, k := range []int{1, 2, 40} {
		for _, w := range bench.UnsoundArcs() {
			if judge(t, k, w.Inner, w.Outer) {
				t.Errorf("%s: it is sound", w.What)
			}
		}
		inner, outer := bench.SmallArcs()
		if !judge(t, k, inner, outer) {
			t.Error("the small one is not sound")
		}
		outer[5][1] = 65536 // more levels than are used
		if !judge(t, k, inner, outer) || !judge(t, k, nil, []api.Rec{bench.End(0, T, 0)}) || !judge(t, k, nil, []api.Rec{bench.End(65536, F, 0)}) {
			t.Error("it is not sound")
		}
	}
}

// TestBentTapes: tapes that were sound, changed here and there. P9.1, G8.
func TestBentTapes(t *testing.T) {
	r := dice{10}
	sound, wrong := 0, 0
	count := func(ok bool) {
		if ok {
			sound++
		} else {
			wrong++
		}
	}
	for range 300 {
		n := 1 + r.Below(4)
		k := 1 + r.Below(3)
		g := r.puffed(r.wild(n, 4), r.Below(9))
		inner, outer := g.tapes()
		if !judge(t, k, inner, outer) {
			t.Fatalf("%v is not sound", g)
		}
		for range 20 {
			inner, outer := r.BendArcs(inner, outer)
			count(judge(t, k, inner, outer))
			inner, outer = r.BendArcs(inner, outer)
			count(judge(t, k, inner, outer))
		}
	}
	if sound == 0 || wrong == 0 {
		t.Errorf("of the bent ones %d are sound, %d not", sound, wrong)
	}
}

// TestAnyRecords: hand-made records of numbers of any size. G1, G8.
func TestAnyRecords(t *testing.T) {
	r := dice{11}
	for range 5000 {
		inner, outer := r.AnyArcs()
		judge(t, 1+r.Below(3), inner, outer)
	}
}

// TestLeftOverTapes: the inner tape of one diagram beside the outer tape of another. G8.
func TestLeftOverTapes(t *testing.T) {
	r := dice{12}
	wrong := 0
	for range 400 {
		n := 1 + r.Below(4)
		inner, _ := r.wild(n, 4).tapes()
		_, outer := r.wild(n, 4).tapes()
		if !judge(t, 1+r.Below(3), inner, outer) {
			wrong++
		}
	}
	if wrong == 0 {
		t.Error("all are sound")
	}
}
