package sorter_test

import (
	"slices"
	"testing"

	"strata/api"
	"strata/sorter"
)

// rising are lists that rise, some of them empty.
func (r *dice) rising(o api.Order, lists, most, few int) [][]api.Rec {
	var l [][]api.Rec
	for range lists {
		l = append(l, model(o, false, r.list(r.below(most+1), few)))
	}
	return l
}

// TestMergeNumbers: of none, of one, of as many as the share has blocks less one, of one more, of many. P5.2, P5.5.
func TestMergeNumbers(t *testing.T) {
	r := dice(1)
	for _, size := range []int{64, 96, 160} {
		k := size/32 - 1
		for n := range 30 {
			o := []api.Order{plain, {2, 0, 3, 1}}[n%2]
			lists := r.rising(o, n, 3*k, 3)
			was := holds(t, size, api.KindOuter, lists...)
			for _, share := range []int{4 * k, 5*k + 1, 40 * k} {
				for _, once := range []bool{false, true} {
					b := mount(t, was, share)
					c := call{true, inputs(n), "out", api.KindOuter, o, once, share}
					if e := c.do(b.Desk); e != api.OK {
						t.Fatalf("K %d, %+v: %d", k, c, e)
					}
					b.made(c, "out", api.KindOuter, model(o, once, lists...))
					if peak := b.Purse().Peak(); peak != b.hand+share {
						t.Fatalf("K %d, %+v: peak %d", k, c, peak)
					}
				}
			}
		}
	}
}

func TestMergeNothing(t *testing.T) { // P5.2, G4
	for _, in := range [][]string{nil, {}} {
		b := mount(t, holds(t, 96, api.KindRaw), 8)
		if e := sorter.Merge(b.Desk, in, "out", api.KindRaw, plain, true, 8); e != api.OK {
			t.Fatalf("Merge(%v): %d", in, e)
		}
		b.made(in, "out", api.KindRaw, nil)
		if n := b.Disk().Counts(); n.Calls != 2 || n.Reads != 0 || n.Appends != 0 {
			t.Errorf("Merge(%v): %+v", in, n)
		}
	}
}

func TestMergeOneNameSeveralTimes(t *testing.T) { // P5.2: its records count as often
	list := firsts(1, 1, 4, 9, 9, 12)
	was := holds(t, 96, api.KindRaw, list, firsts(4, 5))
	for times := range 14 {
		in := []string{"in1"}
		lists := [][]api.Rec{firsts(4, 5)}
		for range times {
			in, lists = append(in, "in0"), append(lists, list)
		}
		for _, once := range []bool{false, true} {
			b := mount(t, was, 8)
			c := call{true, in, "out", api.KindRaw, plain, once, 8}
			if e := c.do(b.Desk); e != api.OK {
				t.Fatalf("%+v: %d", c, e)
			}
			b.made(c, "out", api.KindRaw, model(plain, once, lists...))
		}
	}
}

func TestMergeLeavesItsList(t *testing.T) { // G3, its spare room too
	whole := []string{"in0", "in1", "in2", "in3", "in4", "spare", "room"}
	b := mount(t, holds(t, 64, api.KindRaw, firsts(1), firsts(2), firsts(0), firsts(3), firsts(1, 5)), 4)
	if e := sorter.Merge(b.Desk, whole[:5], "out", api.KindRaw, plain, false, 4); e != api.OK {
		t.Fatalf("Merge: %d", e)
	}
	if !slices.Equal(whole, []string{"in0", "in1", "in2", "in3", "in4", "spare", "room"}) {
		t.Errorf("the list is %v", whole)
	}
}

// TestMergeOfWhatDoesNotRise: one fall, at each place of each tape. P5.2.
func TestMergeOfWhatDoesNotRise(t *testing.T) {
	for _, n := range []int{1, 3, 4, 11} {
		for tape := range n {
			for fall := 1; fall < 7; fall++ {
				var lists [][]api.Rec
				for i := range n {
					lists = append(lists, firsts(2, 2, 4, 6, 6, 8, uint64(8+i)))
				}
				lists[tape][fall] = api.Rec{lists[tape][fall-1][0] - 1, 9, 9, 9}
				was := holds(t, 96, api.KindRaw, lists...)
				for _, once := range []bool{false, true} {
					b := mount(t, was, 8)
					c := call{true, inputs(n), "out", api.KindRaw, plain, once, 8}
					if e := c.do(b.Desk); e != api.ErrRise {
						t.Fatalf("tape %d falls at %d: %+v: %d", tape, fall, c, e)
					}
					b.asBefore(c)
					if n := b.Disk().Counts(); n.Faults != 0 || n.Full != 0 {
						t.Fatalf("%+v", n)
					}
				}
			}
		}
	}
}

func TestMergeRisesByItsOrder(t *testing.T) { // P5.2: what rises by one order falls by another; each word counts
	for last := range 4 {
		o := api.Order{(last + 1) % 4, (last + 2) % 4, (last + 3) % 4, last}
		var low, high api.Rec
		high[last] = 1
		was := holds(t, 64, api.KindRaw, []api.Rec{low, high, high}, []api.Rec{high, low})
		up, down := mount(t, was, 4), mount(t, was, 4)
		if e := sorter.Merge(up.Desk, inputs(1), "out", api.KindRaw, o, false, 4); e != api.OK {
			t.Errorf("%v: %d", o, e)
		}
		up.made(o, "out", api.KindRaw, []api.Rec{low, high, high})
		if e := sorter.Merge(down.Desk, inputs(2), "out", api.KindRaw, o, false, 4); e != api.ErrRise {
			t.Errorf("%v: %d", o, e)
		}
		down.asBefore(o)
	}
	was := holds(t, 64, api.KindRaw, []api.Rec{{1, 5}, {2, 4}})
	for _, c := range []struct {
		o api.Order
		e api.Errno
	}{{plain, api.OK}, {api.Order{1, 0, 2, 3}, api.ErrRise}} {
		if e := sorter.Merge(mount(t, was, 4).Desk, inputs(1), "out", api.KindRaw, c.o, true, 4); e != c.e {
			t.Errorf("%v: %d, want %d", c.o, e, c.e)
		}
	}
}

// TestPartsAndTheWhole: records are dealt out, the parts sorted and merged. P5.7.
func TestPartsAndTheWhole(t *testing.T) {
	for seed := range 300 {
		r := dice(seed)
		size := []int{64, 96, 128}[r.below(3)]
		k := size/32 - 1
		share := 4*k + r.below(4*k)
		o := []api.Order{plain, {1, 0, 2, 3}, {3, 2, 1, 0}}[r.below(3)]
		list := r.list(r.below(120), 2+r.below(9))
		parts := make([][]api.Rec, 1+r.below(9))
		for _, rec := range list {
			i := r.below(len(parts))
			parts[i] = append(parts[i], rec)
		}
		was := holds(t, size, api.KindRaw, append(parts, list)...)
		for _, once := range []bool{false, true} {
			for _, onceInParts := range []bool{false, once} {
				b := mount(t, was, share)
				var sorted []string
				for i := range parts {
					out := "sorted" + input(i)
					if e := sorter.Sort(b.Desk, input(i), out, api.KindRaw, o, onceInParts, share); e != api.OK {
						t.Fatalf("Sort: %d", e)
					}
					sorted = append(sorted, out)
				}
				if e := sorter.Merge(b.Desk, sorted, "merged", api.KindRaw, o, once, share); e != api.OK {
					t.Fatalf("Merge: %d", e)
				}
				if e := sorter.Sort(b.Desk, input(len(parts)), "whole", api.KindRaw, o, once, share); e != api.OK {
					t.Fatalf("Sort: %d", e)
				}
				st := b.Disk().State()
				merged, whole := read(t, st, "merged", api.KindRaw), read(t, st, "whole", api.KindRaw)
				if !slices.Equal(merged, whole) || !slices.Equal(whole, model(o, once, list)) {
					t.Fatalf("seed %d, once %v, in the parts %v:\n%v\n%v", seed, once, onceInParts, merged, whole)
				}
				b.purse(seed)
			}
		}
	}
}
