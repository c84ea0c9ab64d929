package sweep_test

import (
	"math"
	"testing"

	"strata/api"
	"strata/bench"
	"strata/sweep"
	"strata/tape"
)

// call is one of those that refuse, with what it is asked for beside its files.
type call struct {
	what string
	bad  api.Errno // what its numbers and lists alone say; OK: nothing
	late api.Errno // what is said of its levels when the ends (of 2 levels) are known
	do   func(k *tape.Desk, in [3]string, out string) api.Errno
	in   int // files that it reads
}

func calls() []call {
	var out []call
	for op, bad := range map[int]api.Errno{-1: api.ErrOp, 16: api.ErrOp, math.MinInt: api.ErrOp, math.MaxInt: api.ErrOp, 0: api.OK, 15: api.OK, 6: api.OK} {
		out = append(out, call{"Two", bad, api.OK, func(k *tape.Desk, in [3]string, out string) api.Errno {
			return sweep.Two(k, op, in[0], in[1], out)
		}, 2})
	}
	out = append(out, call{"Three", api.OK, api.OK, func(k *tape.Desk, in [3]string, out string) api.Errno {
		return sweep.Three(k, in[0], in[1], in[2], out)
	}, 3})
	for _, c := range []struct {
		lits      []api.Lit
		bad, late api.Errno
	}{
		{nil, api.OK, api.OK},
		{[]api.Lit{{Level: 1}, {Level: 0, Value: true}}, api.OK, api.OK},
		{[]api.Lit{{Level: -1}}, api.ErrLevel, api.OK},
		{[]api.Lit{{Level: math.MinInt}}, api.ErrLevel, api.OK},
		{[]api.Lit{{Level: 0}, {Level: 1}, {Level: 0}}, api.ErrLevel, api.OK},
		{[]api.Lit{{Level: 0}, {Level: 0, Value: true}}, api.ErrLevel, api.OK},
		{[]api.Lit{{Level: 7}, {Level: 7}}, api.ErrLevel, api.OK},
		{[]api.Lit{{Level: math.MaxInt}, {Level: -3}}, api.ErrLevel, api.OK},
		{[]api.Lit{{Level: 0}, {Level: 2}}, api.OK, api.ErrLevel},
		{[]api.Lit{{Level: math.MaxInt}}, api.OK, api.ErrLevel},
		{[]api.Lit{{Level: api.MaxVars}, {Level: 1}}, api.OK, api.ErrLevel},
	} {
		out = append(out, call{"Fix", c.bad, c.late, func(k *tape.Desk, in [3]string, out string) api.Errno {
			return sweep.Fix(k, in[0], c.lits, out)
		}, 1})
	}
	for level, e := range map[int][3]api.Errno{-1: {api.ErrLevel}, math.MinInt: {api.ErrLevel}, 0: {}, 1: {0, 0, api.ErrLevel}, 2: {0, api.ErrLevel, api.ErrLevel}, math.MaxInt: {0, api.ErrLevel, api.ErrLevel}} {
		for _, any := range []bool{false, true} {
			out = append(out, call{"Quant", e[0], e[1], func(k *tape.Desk, in [3]string, out string) api.Errno {
				return sweep.Quant(k, in[0], level, any, out)
			}, 1})
		}
		out = append(out, call{"Swap", e[0], e[2], func(k *tape.Desk, in [3]string, out string) api.Errno {
			return sweep.Swap(k, in[0], level, out)
		}, 1})
	}
	return out
}

// wrongs are the tapes of the tests of refusals.
func wrongs() []bench.Strip {
	and, or := bench.Canon(2, bench.Number(2, 8)), bench.Canon(2, bench.Number(2, 14))
	return append(bench.Files(and, or, and),
		strip("wide", api.KindNodes, bench.Canon(3, bench.Number(3, 0x96))),
		strip("empty", api.KindNodes, nil),
		strip("none", api.KindNodes, []api.Rec{{1, 2, 3, 4}}),
		strip("great", api.KindNodes, []api.Rec{bench.End(api.MaxVars+1, T, 0)}),
		strip("inner", api.KindInner, and),
		strip("long", api.KindNodes, append(append([]api.Rec{}, and[0]), and...)), // an end, though there are more records than it says
		strip("there.i", api.KindRaw, nil),
		strip("here.o", api.KindRaw, nil),
	)
}

// TestRefusals: in the order of G7. P8.2 to P8.6.
func TestRefusals(t *testing.T) {
	const k = 2
	was := bench.Holds(t, k, wrongs()...)
	for _, c := range calls() {
		try := func(free int, want api.Errno, out string, in ...string) {
			t.Helper()
			var names [3]string
			copy(names[:], append(in, "f", "f", "f"))
			if c.in < 3 && len(in) > c.in {
				return
			}
			what := []any{c.what, c.bad, c.late, free, names, out}
			b := mount(t, was, free)
			b.Is(what, c.do(nil, names, out), api.ErrArg)
			e := c.do(b.Desk, names, out)
			if c.bad != api.OK {
				want = c.bad
			}
			b.Is(what, e, want)
			if e == api.OK {
				b.Stays(what)
			} else {
				b.AsBefore(what)
			}
			switch e {
			case api.ErrShape, api.ErrKind, api.ErrVars, api.OK:
			default:
				if n := b.Disk().Counts().Calls; n > 0 && (c.late == api.OK || e != c.late) {
					t.Errorf("%+v: the disk was asked", what)
				}
			}
		}
		const least = api.LeastK * k
		try(least, c.late, "out")
		try(least-1, api.ErrBudget, "out")
		try(0, api.ErrBudget, "out")
		for i := range c.in {
			in := func(name string) []string {
				names := []string{"f", "g", "h"}[:c.in]
				names = append([]string{}, names...)
				names[i] = name
				return names
			}
			for name, want := range map[string]api.Errno{"": api.ErrName, "F": api.ErrName, "no": api.ErrNoFile, "open": api.ErrOpen} {
				try(least, want, "out", in(name)...)
				try(0, want, "out", in(name)...)
				try(least, api.ErrName, "A", in(name)...)
				try(least, api.ErrExists, "there", in(name)...)
				try(0, api.ErrExists, "here", in(name)...)
			}
			for name, want := range map[string]api.Errno{"empty": api.ErrShape, "none": api.ErrShape, "great": api.ErrShape, "inner": api.ErrKind, "raw": api.ErrKind} {
				try(least, want, "out", in(name)...)
				try(least-1, api.ErrBudget, "out", in(name)...)
				try(least, api.ErrExists, "here", in(name)...)
				if c.in > 1 { // the ends come ahead of the numbers of levels, in their order
					names := in(name)
					names[(i+1)%c.in] = "wide"
					try(least, want, "out", names...)
					if i+1 < c.in {
						names[i+1] = map[string]string{"raw": "none"}[name]
						if names[i+1] == "" {
							names[i+1] = "raw"
						}
						try(least, want, "out", names...)
					}
				}
			}
			if c.in > 1 {
				try(least, api.ErrVars, "out", in("wide")...)
			}
		}
		if c.in == 1 && c.late != api.OK { // ahead of all that a file may have wrong otherwise
			try(least, c.late, "out", "long")
		}
		if c.in > 1 {
			try(least, api.ErrVars, "out", "long", "wide")
		}
	}
}

// TestWithoutPower: ahead of all but a nil desk. G7.
func TestWithoutPower(t *testing.T) {
	b := mount(t, bench.Holds(t, 1, wrongs()...), 64, api.Trouble{At: 0, Kind: api.TrCut})
	b.Disk().Create("cut")
	for _, c := range calls() {
		for _, name := range []string{"f", "A", "no", "none"} {
			b.Is(c.what, c.do(b.Desk, [3]string{name, name, name}, name), api.ErrOff)
			b.Is(c.what, c.do(nil, [3]string{name, name, name}, name), api.ErrArg)
		}
	}
	list, info, e := sweep.Arcs(b.Desk, "A")
	if len(list) > 0 || info != (api.Info{}) || e != api.ErrOff {
		t.Errorf("Arcs: %v, %v, %d", list, info, e)
	}
	b.Is("Arcs of a nil desk", third(sweep.Arcs(nil, "A")), api.ErrArg)
	b.Is("Lay", sweep.Lay(b.Desk, []api.Arc{{}}, api.Info{Vars: -1}, "A"), api.ErrOff)
	b.Is("Lay of a nil desk", sweep.Lay(nil, []api.Arc{{}}, api.Info{Vars: -1}, "A"), api.ErrArg)
	b.AsBefore("all")
}

func third(list []api.Arc, info api.Info, e api.Errno) api.Errno { return e }

// TestClosedPart: nothing is free in it. G7.
func TestClosedPart(t *testing.T) {
	x := trioOf(4, bench.Number(4, 0x6db3), bench.Number(4, 0x1234), bench.Number(4, 0x9f31))
	b := mount(t, bench.Holds(t, 1, x.tapes()...), 999)
	part, _ := b.Purse().Part(500)
	k, _ := tape.NewDesk(b.Disk(), part)
	for _, j := range x.jobs(new(dice)) {
		b.Is(j.what, j.do(k, "out"), api.OK)
		b.clear("out")
	}
	part.Close()
	for _, j := range x.jobs(new(dice)) {
		b.Still(j.what, func() { b.Is(j.what, j.do(k, "out"), api.ErrBudget) })
	}
	b.Is("Lay", sweep.Lay(k, nil, api.Info{Root: F}, "out"), api.ErrBudget)
	b.AsBefore("a closed part")
}

// TestGreatPurse: a budget that no memory has. G1, G10.
func TestGreatPurse(t *testing.T) {
	r := dice{8}
	x := trioOf(5, r.Table(5), r.Table(5), r.Table(5))
	for _, k := range []int{1, 2, 2047} {
		b := mount(t, bench.Holds(t, k, x.tapes()...), math.MaxInt-5)
		for _, j := range x.jobs(&r) {
			b.run(j)
			b.clear("out")
		}
		b.AsBefore("a great purse")
	}
}

// TestWrongFiles: tapes with ends that are node files, and with records that are not what they should be: the call ends, and answers an error or makes two tapes; all else is as before. G1, G8.
func TestWrongFiles(t *testing.T) {
	r := dice{9}
	const n = 4
	refused := 0
	for round := range 400 {
		x := trioOf(n, r.Table(n), r.Thin(n), r.Table(n))
		for range 1 + r.Below(3) {
			x.lists[0] = r.Bend(x.lists[0])
		}
		b := lie(t, 1+r.Below(3), x.lists[:]...)
		for _, j := range x.looseJobs(&r) {
			e := j.do(b.Desk, "out")
			switch {
			case e == api.OK:
				others := b.Stays(j.what)
				if len(others) != 2 || !others[0].Sealed || !others[1].Sealed {
					t.Fatalf("%d: %s: the disk holds %v", round, j.what, b.Disk().Names())
				}
				b.Records("out.i", api.KindInner)
				b.Records("out.o", api.KindOuter)
				b.clear("out")
			case e == api.ErrShape || e == api.ErrVars || e == api.ErrLevel:
				refused++
			default:
				t.Fatalf("%d: %s of %v: %d", round, j.what, x.lists[0], e)
			}
			b.AsBefore(j.what)
		}
	}
	if refused == 0 {
		t.Error("nothing was refused")
	}
}

// looseJobs are jobs of which nothing is told but what they are asked for.
func (x trio) looseJobs(r *dice) []job {
	y := trioOf(x.n, r.Table(x.n), r.Table(x.n), r.Table(x.n)) // the names are the same ones
	return y.jobs(r)
}
