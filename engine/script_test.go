package engine_test

import (
	"slices"
	"testing"

	"strata/api"
	"strata/bench"
	"strata/engine"
)

// TestScripts: each call answers what the model of functions answers, and each file is the canonical one. W1, W2, W5, W6, W9, W10, P18.2 to P18.6.
func TestScripts(t *testing.T) {
	all := map[api.Errno]int{}
	for seed := range 80 {
		d := bench.Dice(seed)
		k := 1 + d.Below(7)
		o := options(seed%5, k)
		o.Budget += d.Below(3) * d.Below(200)
		if seed%4 == 3 {
			o.Ids = 1 + d.Below(3)
		}
		r := begin(t, k, room, o)
		for range 80 {
			all[r.does(anyAct(&d, r.m)).fault.Code]++
		}
		opened(t, r.m, o).rests("opened again")
	}
	for _, e := range []api.Errno{api.ErrHandle, api.ErrLevel, api.ErrOp, api.ErrArg, api.ErrVars, api.ErrText, api.ErrIds, api.ErrPerm, api.ErrNode, api.ErrLeaf} {
		if all[e] < 2 {
			t.Errorf("refusals %v: no %d", all, e)
		}
	}
	if all[api.OK] < 4000 {
		t.Errorf("answers %v", all)
	}
}

// TestUnlikeEngines: over unlike blocks and budgets the same steps answer the same and leave the same records. W3.
func TestUnlikeEngines(t *testing.T) {
	for seed := range 6 {
		d := bench.Dice(1000 + seed)
		k := []int{31, 255, 2047}[seed%3]
		rigs := []*rig{begin(t, 1, room, options(4, 1)), begin(t, 2, 1<<20, api.Options{Vars: 4, Budget: 1000, Ids: 99}), begin(t, k, 1<<14, api.Options{Vars: 4, Budget: 1<<63 - 1, Ids: 1 << 40})}
		for range 40 {
			a := anyAct(&d, rigs[0].m)
			want := rigs[0].does(a)
			for _, r := range rigs[1:] {
				r.is(a, want)
			}
		}
		for _, r := range rigs[1:] {
			if !slices.Equal(r.e.Order(), rigs[0].e.Order()) || !slices.Equal(r.m.table.Rows, rigs[0].m.table.Rows) {
				t.Errorf("seed %d: %+v, %+v", seed, r.m.table, rigs[0].m.table)
			}
		}
	}
}

// TestTroubledScripts: faults, full disks and losses of power at any time; behind each the engine goes on, or is opened again, with what was ahead of the step or behind it. W1, W5 to W7.
func TestTroubledScripts(t *testing.T) {
	all := map[api.Errno]int{}
	for seed := range 60 {
		d := bench.Dice(2000 + seed)
		k := 1 + d.Below(4)
		o := options(2+d.Below(3), k)
		blocks := room
		if seed%3 == 0 {
			blocks = 2*((o.Vars+k)/k) + 10 + d.Below(60)
		}
		r := begin(t, k, blocks, o)
		for range 60 {
			var troubles []api.Trouble
			for range d.Below(3) {
				troubles = append(troubles, api.Trouble{At: d.Below(300), Kind: api.TrFault + d.Below(2), Bytes: d.Below(3) * 20})
			}
			all[r.lives(&d, troubles)]++
		}
	}
	for _, e := range []api.Errno{api.OK, api.ErrFault, api.ErrFull, api.ErrOff} {
		if all[e] < 50 {
			t.Errorf("answers %v", all)
		}
	}
}

// lives lets the troubles befall a disk that is mounted and the calls on it, until one has befallen it or some calls have been made.
func (r *rig) lives(d *bench.Dice, troubles []api.Trouble) api.Errno {
	r.Helper()
	st := r.m.state()
	r.d = mount(r.T, st, r.m.blocks, troubles...)
	if !r.opens(r.m, r.m) {
		return r.recovers(r.m, r.m)
	}
	for range 4 {
		ahead := r.m.clone()
		got := r.does(anyAct(d, r.m))
		switch got.fault.Code {
		case api.ErrOff:
			return r.recovers(ahead, r.m)
		case api.ErrFault, api.ErrFull:
			return got.fault.Code
		}
	}
	return api.OK
}

// opens opens the disk, which holds what one of two models tells, and perhaps other files. Whether it was not refused.
func (r *rig) opens(before, after *model) bool {
	r.Helper()
	was := r.d.Counts()
	e := api.OK
	r.e, e = engine.Open(r.d, r.o)
	r.blames("open", was, refused(e), refused(api.OK))
	if e != api.OK {
		if r.e != nil {
			r.Fatalf("Open: an engine beside %d", e)
		}
		return false
	}
	r.m = after.clone()
	if sameState(r.d.State(), before.state()) {
		r.m = before.clone()
	}
	r.rests("open")
	return true
}

// recovers mounts again what the disk holds and opens it.
func (r *rig) recovers(before, after *model) api.Errno {
	r.Helper()
	r.d = mount(r.T, r.d.State(), r.m.blocks)
	if !r.opens(before, after) {
		r.Fatalf("it cannot be opened: %v", r.d.Names())
	}
	return api.ErrOff
}
