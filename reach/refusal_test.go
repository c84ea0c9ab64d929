package reach_test

import (
	"fmt"
	"testing"

	"strata/api"
	"strata/bench"
	"strata/catalog"
	"strata/disk"
	"strata/engine"
	"strata/purse"
	"strata/reach"
	"strata/tape"
)

// anyCall is each call over these; the sets of Holds are both, and its text is that one.
func anyCall(steps, a, b int, text string) []act {
	return []act{post(steps, b), pre(steps, b), reached(steps, b), until(steps, a, b), always(steps, b), trace(steps, a, b), holds(steps, []int{a, b}, property{text: text})}
}

// isRefused fails the test unless each of these is refused so, and nothing is changed.
func (r *rig) isRefused(want api.Errno, acts ...act) {
	r.Helper()
	held := r.d.State()
	for _, a := range acts {
		if got, h := a.do(r.e); got != refused(want) || h != 0 {
			r.Fatalf("%s: %+v, handle %d, want %d", a.what, got, h, want)
		}
		if now := r.d.State(); fmt.Sprint(now) != fmt.Sprint(held) {
			r.Fatalf("%s: the disk holds %v", a.what, r.d.Names())
		}
	}
}

// TestNoEngine: ahead of all else. Step 1.
func TestNoEngine(t *testing.T) {
	for _, a := range anyCall(1, 2, 3, "#") {
		if got, h := a.do(nil); got != refused(api.ErrArg) || h != 0 {
			t.Errorf("%s: %+v", a.what, got)
		}
	}
}

// off is an engine whose power is off.
func (r *rig) off() *rig {
	r.Helper()
	at := r.again(room).d.Counts().Calls
	x := r.again(room, api.Trouble{At: at, Kind: api.TrCut})
	x.d.Create("a")
	if x.d.On() {
		r.Fatalf("the power is on")
	}
	return x
}

// TestOrderOfRefusals: each of the chapter's steps ahead of those behind it. Steps 1 to 6.
func TestOrderOfRefusals(t *testing.T) {
	even, odd := begin(t, 2, options(4, 2)), begin(t, 2, options(3, 2))
	for _, r := range []*rig{even, odd} {
		r.put(make([]bool, 1<<r.vars()))
		r.put(bench.TableOf(r.vars(), func(x int) bool { return bench.Bit(r.vars(), x, 0) }))
		r.put(bench.TableOf(r.vars(), func(x int) bool { return bench.Bit(r.vars(), x, 1) })) // no set
	}
	const wrong = "( #"
	for _, r := range []*rig{odd, odd.off(), even, even.off()} {
		for _, h := range []int{99, 0, -1, 4, -1 << 63, 1<<63 - 1} {
			r.isRefused(api.ErrHandle, anyCall(h, 1, 2, wrong)...)
			r.isRefused(api.ErrHandle, anyCall(h, 3, 3, "true")...)
			r.isRefused(api.ErrHandle, anyCall(1, 3, h, wrong)...)
			r.isRefused(api.ErrHandle, until(1, h, 3), trace(1, h, 3), holds(1, []int{h, 3}, property{text: wrong}))
		}
	}
	for _, r := range []*rig{odd, odd.off()} {
		r.isRefused(api.ErrOdd, anyCall(1, 1, 2, wrong)...)
		r.isRefused(api.ErrOdd, anyCall(1, 3, 3, "true")...)
	}
	for _, r := range []*rig{even, even.off()} {
		for _, sets := range [][]int{{1, 2}, {3, 3}} {
			if h, f := reach.Holds(r.e, 1, letters(2), sets, wrong); h != 0 || f != (api.Fault{Code: api.ErrCtl, At: api.Pos{Line: 1, Col: 3}}) {
				t.Errorf("Holds: %d, %v", h, f)
			}
		}
	}
	even.off().isRefused(api.ErrOff, anyCall(1, 3, 3, "true")...)
	even.isRefused(api.ErrOdd, anyCall(1, 1, 3, "true")...)
	even.isRefused(api.ErrOdd, until(1, 3, 1), trace(1, 3, 1), trace(1, 1, 3), holds(1, []int{3, 1}, property{text: "true"}))
	even.isRefused(api.ErrLeaf, trace(1, 1, 1), trace(1, 2, 1), trace(2, 1, 2))
}

// handMade is an engine on a disk that nobody has come to by steps: rows of one file, the steps and sets of which are true.
func handMade(t *testing.T, vars, rows, next int, file, nextFile, gen uint64) *rig {
	t.Helper()
	const k = 31
	d, _ := disk.New(api.Setup{Block: 32 * (k + 1), Blocks: room})
	p, _ := purse.New(64 * k)
	desk, _ := tape.NewDesk(d, p)
	laid(desk, catalog.FileName(file), api.KindNodes, []api.Rec{bench.End(vars, api.True, 0)})
	table := api.Rows{Vars: vars, Next: next, NextFile: nextFile}
	for v := range vars {
		table.Order = append(table.Order, v)
	}
	for i := range rows {
		table.Rows = append(table.Rows, api.Row{Handle: i + 1, File: file})
	}
	if e := catalog.Commit(desk, table, gen-1); e != api.OK {
		t.Fatalf("Commit: %d", e)
	}
	o := options(vars, k)
	e, no := engine.Open(d, o)
	if no != api.OK {
		t.Fatalf("Open: %d", no)
	}
	return &rig{t, d, e, o, nil}
}

// TestLimits: what engine.Step asks ahead of its function and behind it; Trace needs no handle. Steps 5 and 8.
func TestLimits(t *testing.T) {
	const last = 1<<64 - 1
	makes := func(text string) []act {
		all := anyCall(1, 2, 3, text)
		return append(all[:5:5], all[6])
	}
	for _, c := range []struct {
		what string
		r    *rig
		want api.Errno
	}{
		{"handles", handMade(t, 2, 1024, 1<<31, 1, last, 9), api.ErrMany},
		{"the last handle", handMade(t, 2, 3, 1<<31, 1, 9, 9), api.ErrWorn},
		{"the last file", handMade(t, 2, 3, 9, 1, last, 9), api.ErrWorn},
		{"the last generation", handMade(t, 2, 3, 9, 1, 9, last), api.ErrWorn},
	} {
		c.r.isRefused(c.want, makes("a -> b")...)
		if way, e := reach.Trace(c.r.e, 1, 2, 3); len(way) != 1 || e != api.OK {
			t.Errorf("%s: Trace: %v, %d", c.what, way, e)
		}
		c.r.isRefused(api.ErrHandle, anyCall(1, 2, 1025, "#")...)
	}
	odd := handMade(t, 3, 1024, 1<<31, 1, last, 9)
	odd.isRefused(api.ErrOdd, anyCall(1, 2, 3, "#")...)
	if _, f := reach.Holds(handMade(t, 2, 1024, 1<<31, 1, last, 9).e, 1, nil, nil, ""); f.Code != api.ErrCtl {
		t.Errorf("the text is ahead of the handles: %v", f)
	}
}

// TestManyAheadOfOdd: what the step asks is ahead of what is asked of the sets. Steps 5 and 6.
func TestManyAheadOfOdd(t *testing.T) {
	r := begin(t, 31, options(2, 31))
	steps, odd := r.put([]bool{true, false, false, true}), r.put([]bool{false, true, false, true})
	for len(r.e.Handles()) < 1024 {
		if _, no := r.e.Copy(steps); no != api.OK {
			t.Fatalf("Copy: %d", no)
		}
	}
	for _, a := range anyCall(steps, odd, odd, "true") {
		want := api.ErrMany
		if a.what == trace(steps, odd, odd).what {
			want = api.ErrOdd
		}
		r.isRefused(want, a)
	}
	if no := r.e.Free(1024); no != api.OK {
		t.Fatalf("Free: %d", no)
	}
	r.isRefused(api.ErrOdd, anyCall(steps, odd, odd, "true")...)
	if h, f := reach.Holds(r.e, steps, nil, nil, "true"); h != 1025 || f != (api.Fault{}) {
		t.Errorf("Holds: %d, %v", h, f)
	}
}

// TestIds: of the set that is answered, not of what is made on the way. Step 8.
func TestIds(t *testing.T) {
	told := map[api.Errno]int{}
	for seed := range 60 {
		d := bench.Dice(seed)
		o := options(6, 2)
		o.Ids = 1
		all := begin(t, 2, options(6, 2))
		all.put(anySteps(&d, 3))
		for range 3 {
			all.putSet(anySet(&d, 3))
		}
		r := *all
		r.o = o
		few := r.again(room)
		for range 8 {
			told[few.tries(anyAct(&d)).fault.Code]++
		}
	}
	if told[api.ErrIds] < 10 || told[api.OK] < 100 {
		t.Errorf("answers %v", told)
	}
}
