package engine_test

import (
	"slices"
	"testing"

	"strata/api"
	"strata/bench"
	"strata/calc"
	"strata/nodes"
	"strata/tape"
)

// maker is a function for Step.
type maker func(k *tape.Desk, out string) api.Errno

// stepsNot fails the test unless a step of one's own is refused so, and leaves all as it was.
func (r *rig) stepsNot(what any, make maker, want api.Errno) {
	r.Helper()
	if h, no := r.e.Step(make); h != 0 || no != want {
		r.Fatalf("%v: %d, %d, want %d", what, h, no, want)
	}
	r.rests(what)
}

// TestStep: the function is called once, with the desk and the file's name, and may ask what is told from memory; all that it does is one step. P18.10.
func TestStep(t *testing.T) {
	r := busy(t, 2)
	gen, called := r.m.gen, 0
	f, _ := r.e.File(2)
	h, no := r.e.Step(func(k *tape.Desk, out string) api.Errno {
		called++
		if k.Disk() != r.d || k.Purse().Limit() != r.o.Budget || k.Purse().Used() != 0 || out != fileName(r.m.table.NextFile) {
			t.Errorf("out %q", out)
		}
		r.tells("within a step", r.m)
		from := f
		for range 5 { // five times not
			to := k.Temp()
			if no := calc.Not(k, from, to); no != api.OK {
				return no
			}
			from = to
		}
		return calc.Restrict(k, from, nil, out)
	})
	if h != r.m.table.Next || no != api.OK || called != 1 {
		t.Fatalf("Step: %d, %d, called %d times", h, no, called)
	}
	not(2).say(r.m)
	r.rests("a step of one's own")
	if r.m.gen != gen+1 {
		t.Errorf("generation %d behind %d", r.m.gen, gen)
	}
}

// TestNoFunction: ahead of the power. P18.10.
func TestNoFunction(t *testing.T) {
	r := busy(t, 2)
	r.stepsNot("nil", nil, api.ErrArg)
	if no := r.e.Look(nil); no != api.ErrArg {
		t.Errorf("Look(nil): %d", no)
	}
	off := opened(t, r.m, r.o, api.Trouble{At: 1000, Kind: api.TrCut})
	for off.d.On() {
		off.d.Create("a")
		off.d.Delete("a")
	}
	called := 0
	if h, no := off.e.Step(nil); h != 0 || no != api.ErrArg || off.e.Look(nil) != api.ErrArg {
		t.Errorf("off: %d, %d", h, no)
	}
	if h, no := off.e.Step(func(*tape.Desk, string) api.Errno { called++; return api.OK }); h != 0 || no != api.ErrOff {
		t.Errorf("off: %d, %d", h, no)
	}
	if no := off.e.Look(func(*tape.Desk) api.Errno { called++; return api.OK }); no != api.ErrOff || called > 0 {
		t.Errorf("off: %d, called %d times", no, called)
	}
}

// laid writes a sealed tape.
func laid(k *tape.Desk, name string, kind int, list ...api.Rec) api.Errno {
	w, no := k.Write(name, kind)
	if no != api.OK {
		return no
	}
	for _, rec := range list {
		w.Put(rec)
	}
	return w.Close()
}

// TestWhatIsMade: an error of the function is the refusal; else the file must be there, sealed, a node file, and no wider than may be. P18.10.
func TestWhatIsMade(t *testing.T) {
	o := options(3, 2)
	o.Ids = 1
	r := begin(t, 2, room, o)
	r.script(text("x0 & x1 | x2"), text("x1"))
	for no := api.Errno(1); no < 210; no++ { // also those of the disk, whose power is on
		r.stepsNot(no, func(k *tape.Desk, out string) api.Errno { calc.Const(k, 3, true, out); return no }, no)
		r.stepsNot(no, func(k *tape.Desk, out string) api.Errno { return no }, no)
		if got := r.e.Look(func(k *tape.Desk) api.Errno { return no }); got != no {
			t.Errorf("Look: %d, want %d", got, no)
		}
	}
	r.stepsNot("nothing", func(*tape.Desk, string) api.Errno { return api.OK }, api.ErrNoFile)
	r.stepsNot("not sealed", func(k *tape.Desk, out string) api.Errno { return k.Disk().Create(out) }, api.ErrOpen)
	r.stepsNot("not sealed, an error", func(k *tape.Desk, out string) api.Errno { k.Disk().Create(out); return api.ErrPerm }, api.ErrPerm)
	r.stepsNot("no records", func(k *tape.Desk, out string) api.Errno { return laid(k, out, api.KindNodes) }, api.ErrShape)
	r.stepsNot("another kind", func(k *tape.Desk, out string) api.Errno { return laid(k, out, api.KindRaw, end(3, T, 0)) }, api.ErrKind)
	r.stepsNot("no end", func(k *tape.Desk, out string) api.Errno { return laid(k, out, api.KindNodes, api.Rec{1, 2, 3, 4}) }, api.ErrShape)
	r.stepsNot("too wide", func(k *tape.Desk, out string) api.Errno {
		return laid(k, out, api.KindNodes, bench.Canon(3, bench.Number(3, 0x69))...)
	}, api.ErrIds)
	r.stepsNot("spoilt", func(k *tape.Desk, out string) api.Errno {
		calc.Const(k, 3, true, out)
		return k.Disk().Spoil(out, 0, 77)
	}, api.ErrSpoilt)
	h, no := r.e.Step(func(k *tape.Desk, out string) api.Errno { return calc.Const(k, 3, true, out) })
	if h != 3 || no != api.OK {
		t.Errorf("Step: %d, %d", h, no)
	}
}

// TestTemporariesOfAFunction: all files are deleted whose names begin so, sealed or not, whatever is answered. P18.10, W5.
func TestTemporariesOfAFunction(t *testing.T) {
	r := busy(t, 2)
	litter := func(k *tape.Desk) {
		for range 3 {
			calc.Const(k, 3, false, k.Temp())
		}
		k.Disk().Create(k.Temp())
		laid(k, k.Temp()+".i", api.KindInner, api.Rec{1})
		q := k.Temp()
		if calc.Var(k, 3, 0, q) != api.OK || nodes.Check(k, q) != api.OK {
			t.Errorf("a temporary")
		}
	}
	r.stepsNot("an error", func(k *tape.Desk, out string) api.Errno { litter(k); return api.ErrPerm }, api.ErrPerm)
	r.stepsNot("no file", func(k *tape.Desk, out string) api.Errno { litter(k); return api.OK }, api.ErrNoFile)
	for _, no := range []api.Errno{api.OK, api.ErrPerm} {
		if got := r.e.Look(func(k *tape.Desk) api.Errno { litter(k); return no }); got != no {
			t.Errorf("Look: %d, want %d", got, no)
		}
		r.rests("Look")
	}
	if _, no := r.e.Step(func(k *tape.Desk, out string) api.Errno { litter(k); return calc.Const(k, 3, true, out) }); no != api.OK {
		t.Errorf("Step: %d", no)
	}
	constant(true).say(r.m)
	r.rests("Step")
}

// TestWhatTheDiskRefused counts ahead of what a function answers, who may have passed it over: the power, a fault, a full disk, in this order. P18.10.
func TestWhatTheDiskRefused(t *testing.T) {
	const k = 1
	base := busy(t, k).m
	from := opened(t, base, options(3, k)).d.Counts().Calls
	fault, cut := api.Trouble{At: from, Kind: api.TrFault}, api.Trouble{At: from + 3, Kind: api.TrCut, Bytes: 1}
	fills := func(k *tape.Desk) {
		name := k.Temp()
		k.Disk().Create(name)
		for k.Disk().Append(name, make([]byte, k.Disk().Block())) == api.OK {
		}
	}
	for _, c := range []struct {
		what     string
		troubles []api.Trouble
		do       func(k *tape.Desk)
		want     api.Errno
	}{
		{"a fault", []api.Trouble{fault}, func(k *tape.Desk) { k.Disk().Create(k.Temp()) }, api.ErrFault},
		{"a full disk", nil, fills, api.ErrFull},
		{"a full disk and a fault", []api.Trouble{{At: from + 5, Kind: api.TrFault}}, func(k *tape.Desk) { fills(k); fills(k) }, api.ErrFault},
		{"the power", []api.Trouble{cut}, fills, api.ErrOff},
		{"a fault and the power", []api.Trouble{fault, cut}, func(k *tape.Desk) { k.Disk().Create(k.Temp()); fills(k) }, api.ErrOff},
		{"the power in the Deletes behind it", []api.Trouble{{At: from + 1, Kind: api.TrCut}}, func(k *tape.Desk) { k.Disk().Create(k.Temp()) }, api.ErrOff},
	} {
		for _, says := range []api.Errno{api.OK, api.ErrPerm, api.ErrOff, api.ErrFault, api.ErrFull} {
			m := base.clone()
			m.blocks = bench.BlocksIn(m.state()) + 40
			tried := func() *rig { return opened(t, m, options(3, k), c.troubles...) }
			r := tried()
			h, no := r.e.Step(func(k *tape.Desk, out string) api.Errno {
				c.do(k)
				calc.Const(k, 3, true, out)
				return says
			})
			if h != 0 || no != c.want {
				t.Errorf("%s, %d: Step: %d, %d, want %d", c.what, says, h, no, c.want)
			}
			r.left(c.what, c.want)
			r = tried()
			if no := r.e.Look(func(k *tape.Desk) api.Errno { c.do(k); return says }); no != c.want {
				t.Errorf("%s, %d: Look: %d, want %d", c.what, says, no, c.want)
			}
			r.left(c.what, c.want)
		}
	}
}

// left fails the test unless all is as it was, the power aside.
func (r *rig) left(what any, e api.Errno) {
	r.Helper()
	if e != api.ErrOff {
		r.rests(what)
		return
	}
	r.tells(what, r.m)
	r.recovers(r.m, r.m)
}

// TestAnOldFault: what the disk refused ahead of a step of one's own counts no more. P18.10.
func TestAnOldFault(t *testing.T) {
	base := busy(t, 2).m
	from := opened(t, base, options(3, 2)).d.Counts().Calls
	r := opened(t, base, options(3, 2), api.Trouble{At: from + 2, Kind: api.TrFault})
	r.is(not(1), refused(api.ErrFault))
	r.is(own(1, api.OK), said(7))
	r.is(look(1, 2, api.OK), said(true))
	if !slices.Equal(r.e.Handles(), []int{1, 2, 4, 5, 6, 7}) {
		t.Errorf("handles %v", r.e.Handles())
	}
}

// TestPeak: the most records that were ever out. P18.6, G10.
func TestPeak(t *testing.T) {
	r := begin(t, 2, room, api.Options{Vars: 3, Budget: 500, Ids: 9})
	last := r.e.Peak()
	if last < 2 {
		t.Errorf("Peak %d behind Open", last)
	}
	for _, a := range append(table3(), not(1), sift(), count(1)) {
		r.does(a)
		if now := r.e.Peak(); now < last || now > 500 {
			t.Errorf("Peak %d, then %d", last, now)
		} else {
			last = now
		}
	}
	for _, n := range []int{400, 500, 30} {
		r.e.Look(func(k *tape.Desk) api.Errno {
			k.Purse().Take(n)
			return k.Purse().Give(n)
		})
		if last = max(last, n); r.e.Peak() != last {
			t.Errorf("Peak %d, want %d", r.e.Peak(), last)
		}
	}
}
