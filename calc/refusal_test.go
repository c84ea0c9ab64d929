package calc_test

import (
	"math"
	"slices"
	"testing"

	"strata/api"
	"strata/bench"
	"strata/calc"
	"strata/tape"
)

// call is one of the calls, with what it is asked for beside its files.
type call struct {
	what string
	bad  api.Errno // what its numbers and lists alone say; OK: nothing
	late api.Errno // what is said of its levels when the ends (of 2 levels) are known
	in   int       // files that it reads
	do   func(k *tape.Desk, in [3]string, out string) api.Errno
}

// makers are calls without operands. P10.1, step 2.
func makers() []call {
	var out []call
	add := func(what string, bad api.Errno, do func(k *tape.Desk, out string) api.Errno) {
		out = append(out, call{what: what, bad: bad, do: func(k *tape.Desk, in [3]string, out string) api.Errno { return do(k, out) }})
	}
	for vars, bad := range map[int]api.Errno{-1: api.ErrArg, math.MinInt: api.ErrArg, api.MaxVars + 1: api.ErrArg, math.MaxInt: api.ErrArg, 0: api.OK, 1: api.OK, api.MaxVars: api.OK} {
		add("Const", bad, func(k *tape.Desk, out string) api.Errno { return calc.Const(k, vars, vars > 0, out) })
		add("Cube of none", bad, func(k *tape.Desk, out string) api.Errno { return calc.Cube(k, vars, nil, out) })
		for _, level := range []int{math.MinInt, -1, 0, 1, api.MaxVars - 1, api.MaxVars, math.MaxInt} {
			bad := bad
			if bad == api.OK && (level < 0 || level >= vars) {
				bad = api.ErrLevel
			}
			add("Var", bad, func(k *tape.Desk, out string) api.Errno { return calc.Var(k, vars, level, out) })
			lits := []api.Lit{{Level: level}}
			add("Cube of one", bad, func(k *tape.Desk, out string) api.Errno { return calc.Cube(k, vars, lits, out) })
			twice := append(lits, api.Lit{Level: level, Value: true})
			if bad == api.OK {
				bad = api.ErrLevel
			}
			add("Cube of one twice", bad, func(k *tape.Desk, out string) api.Errno { return calc.Cube(k, vars, twice, out) })
		}
	}
	return out
}

// lists are levels, and what is said of them where each may stand once.
func lists() []call {
	var out []call
	for _, c := range []struct {
		levels    []int
		bad, late api.Errno
	}{
		{nil, api.OK, api.OK},
		{[]int{1, 0}, api.OK, api.OK},
		{[]int{-1}, api.ErrLevel, api.OK},
		{[]int{math.MinInt}, api.ErrLevel, api.OK},
		{[]int{0, 1, 0}, api.ErrLevel, api.OK},
		{[]int{7, 7}, api.ErrLevel, api.OK},
		{[]int{math.MaxInt, -3}, api.ErrLevel, api.OK},
		{[]int{0, 2}, api.OK, api.ErrLevel},
		{[]int{math.MaxInt}, api.OK, api.ErrLevel},
		{[]int{api.MaxVars, 1}, api.OK, api.ErrLevel},
	} {
		var lits []api.Lit
		for i, level := range c.levels {
			lits = append(lits, api.Lit{Level: level, Value: i%2 == 0})
		}
		out = append(out,
			call{"Restrict", c.bad, c.late, 1, func(k *tape.Desk, in [3]string, out string) api.Errno { return calc.Restrict(k, in[0], lits, out) }},
			call{"Exists", c.bad, c.late, 1, func(k *tape.Desk, in [3]string, out string) api.Errno { return calc.Exists(k, in[0], c.levels, out) }},
			call{"Forall", c.bad, c.late, 1, func(k *tape.Desk, in [3]string, out string) api.Errno { return calc.Forall(k, in[0], c.levels, out) }})
	}
	return out
}

// calls are all of them.
func calls() []call {
	out := append(makers(), lists()...)
	out = append(out, call{"Not", api.OK, api.OK, 1, func(k *tape.Desk, in [3]string, out string) api.Errno { return calc.Not(k, in[0], out) }})
	for op, bad := range map[int]api.Errno{-1: api.ErrOp, 16: api.ErrOp, math.MinInt: api.ErrOp, math.MaxInt: api.ErrOp, 0: api.OK, 15: api.OK, 6: api.OK} {
		out = append(out, call{"Apply", bad, api.OK, 2, func(k *tape.Desk, in [3]string, out string) api.Errno { return calc.Apply(k, op, in[0], in[1], out) }})
	}
	out = append(out, call{"Ite", api.OK, api.OK, 3, func(k *tape.Desk, in [3]string, out string) api.Errno {
		return calc.Ite(k, in[0], in[1], in[2], out)
	}})
	for level, e := range map[int][2]api.Errno{-1: {api.ErrLevel}, math.MinInt: {api.ErrLevel}, 0: {}, 1: {}, 2: {0, api.ErrLevel}, math.MaxInt: {0, api.ErrLevel}} {
		out = append(out, call{"Compose", e[0], e[1], 2, func(k *tape.Desk, in [3]string, out string) api.Errno {
			return calc.Compose(k, in[0], level, in[1], out)
		}})
	}
	for _, c := range []struct {
		to        []int
		bad, late api.Errno
	}{
		{[]int{1, 0}, api.OK, api.OK},
		{[]int{0, 1}, api.OK, api.OK},
		{nil, api.OK, api.ErrLevel},
		{[]int{0}, api.OK, api.ErrLevel},
		{[]int{0, 1, 1}, api.OK, api.ErrLevel},
		{[]int{0, 2}, api.OK, api.ErrLevel},
		{[]int{math.MaxInt, 0}, api.OK, api.ErrLevel},
		{[]int{0, -1}, api.ErrLevel, api.OK},
		{[]int{9, 9, 9, math.MinInt}, api.ErrLevel, api.OK},
	} {
		out = append(out, call{"Rename", c.bad, c.late, 1, func(k *tape.Desk, in [3]string, out string) api.Errno { return calc.Rename(k, in[0], c.to, out) }})
	}
	return out
}

// wrongs are the tapes of the tests of refusals.
func wrongs() []bench.Strip {
	and, or := bench.Canon(2, bench.Number(2, 8)), bench.Canon(2, bench.Number(2, 14))
	return append(bench.Files(and, or, and),
		nodeFile("wide", bench.Canon(3, bench.Number(3, 0x96))),
		nodeFile("empty", nil),
		nodeFile("none", []api.Rec{{1, 2, 3, 4}}),
		nodeFile("great", []api.Rec{bench.End(api.MaxVars+1, T, 0)}),
		nodeFile("long", append([]api.Rec{and[0]}, and...)), // an end, though there are more records than it says
		bench.Strip{Name: "inner", Kind: api.KindInner, List: and},
	)
}

// try makes a call and looks at its refusal, and that the disk is not asked ahead of the ends.
func (c call) try(t *testing.T, was api.State, free int, want api.Errno, out string, in ...string) {
	t.Helper()
	if len(in) > c.in {
		in = in[:c.in]
	}
	var names [3]string
	copy(names[:], in)
	if c.bad != api.OK {
		want = c.bad
	}
	what := []any{c.what, c.bad, c.late, free, names, out}
	b := bench.Mount(t, was, free)
	b.Is(what, c.do(nil, names, out), api.ErrArg)
	e := c.do(b.Desk, names, out)
	b.Is(what, e, want)
	if e == api.OK {
		b.Stays(what)
	} else {
		b.AsBefore(what)
	}
	asked := e == api.OK || e == api.ErrShape || e == api.ErrKind || e == api.ErrVars || e == api.ErrLevel && c.bad == api.OK
	if n := b.Disk().Counts().Calls; n > 0 && !asked {
		t.Errorf("%+v: the disk was asked", what)
	}
}

// TestRefusals: in the order of G7. P10.1 to P10.3.
func TestRefusals(t *testing.T) {
	const k = 2
	const least = api.LeastK * k
	was := bench.Holds(t, k, wrongs()...)
	for _, c := range calls() {
		good := []string{"f", "g", "h"}
		c.try(t, was, least, c.late, "out", good...)
		c.try(t, was, least-1, api.ErrBudget, "out", good...)
		c.try(t, was, 0, api.ErrBudget, "out", good...)
		c.try(t, was, 0, api.ErrName, "", good...)
		c.try(t, was, 0, api.ErrExists, "f", good...)
		c.try(t, was, 0, api.ErrExists, "open", good...)
		for i := range c.in {
			c.tryNames(t, was, least, i)
			c.tryEnds(t, was, least, i)
		}
		if c.in == 1 && c.late != api.OK { // ahead of all that a file may have wrong otherwise
			c.try(t, was, least, c.late, "out", "long")
		}
	}
}

// with is the operands with another one in one place.
func with(i int, name string) []string {
	names := []string{"f", "g", "h"}
	names[i] = name
	return names
}

// tryNames: the name of operand i is none, or there is no such file, or it is not sealed; behind out's name, ahead of the purse, ahead of a later operand.
func (c call) tryNames(t *testing.T, was api.State, least, i int) {
	t.Helper()
	for name, want := range map[string]api.Errno{"": api.ErrName, "F": api.ErrName, "no": api.ErrNoFile, "open": api.ErrOpen} {
		names := with(i, name)
		c.try(t, was, least, want, "out", names...)
		c.try(t, was, 0, want, "out", names...)
		c.try(t, was, least, api.ErrName, "A", names...)
		c.try(t, was, least, api.ErrExists, "f", names...)
		if i+1 < c.in {
			for _, later := range []string{"", "no", "open", "raw"} {
				names[i+1] = later
				c.try(t, was, least, want, "out", names...)
			}
		}
		if i > 0 { // a wrong end comes behind all names
			names = with(i, name)
			names[i-1] = "raw"
			c.try(t, was, least, want, "out", names...)
		}
	}
}

// tryEnds: operand i does not end as a node file does; behind the purse, ahead of a later operand, and of unlike numbers of levels; these ahead of the levels.
func (c call) tryEnds(t *testing.T, was api.State, least, i int) {
	t.Helper()
	for name, want := range map[string]api.Errno{"empty": api.ErrShape, "none": api.ErrShape, "great": api.ErrShape, "inner": api.ErrKind, "raw": api.ErrKind} {
		names := with(i, name)
		c.try(t, was, least, want, "out", names...)
		c.try(t, was, least-1, api.ErrBudget, "out", names...)
		c.try(t, was, least, api.ErrExists, "g", names...)
		if c.in == 1 {
			continue
		}
		names[(i+1)%c.in] = "wide"
		c.try(t, was, least, want, "out", names...)
		if i+1 < c.in {
			names[i+1] = "raw"
			if want == api.ErrKind {
				names[i+1] = "none"
			}
			c.try(t, was, least, want, "out", names...)
		}
	}
	if c.in > 1 {
		c.try(t, was, least, api.ErrVars, "out", with(i, "wide")...)
	}
}

// TestWithoutPower: ahead of all but a nil desk. G7.
func TestWithoutPower(t *testing.T) {
	b := bench.Mount(t, bench.Holds(t, 1, wrongs()...), 64, api.Trouble{At: 0, Kind: api.TrCut})
	b.Disk().Create("cut")
	for _, c := range calls() {
		for _, name := range []string{"f", "A", "no", "none"} {
			b.Is(c.what, c.do(b.Desk, [3]string{name, name, name}, name), api.ErrOff)
			b.Is(c.what, c.do(nil, [3]string{name, name, name}, name), api.ErrArg)
		}
	}
	b.AsBefore("all")
}

// TestClosedPart: nothing is free in it. G7.
func TestClosedPart(t *testing.T) {
	r := bench.Dice(7)
	x := anyTrio(&r, 4)
	b := bench.Mount(t, bench.Holds(t, 1, x.tapes()...), 999)
	part, _ := b.Purse().Part(500)
	k, _ := tape.NewDesk(b.Disk(), part)
	all := x.deeds(&r)
	for _, d := range all {
		b.Is(d.what, d.do(k, "out"), api.OK)
		b.Disk().Delete("out")
	}
	part.Close()
	for _, d := range all {
		b.Still(d.what, func() { b.Is(d.what, d.do(k, "out"), api.ErrBudget) })
	}
	b.AsBefore("a closed part")
}

// TestRenameToOneGoal: two levels with the same goal are refused just if f hangs on both. P10.1.
func TestRenameToOneGoal(t *testing.T) {
	const n = 4
	r := bench.Dice(9)
	refused, made := 0, 0
	for range 60 {
		x := trioOf(n, r.Thin(n), r.Table(n), never(n))
		b := bench.Lie(t, 1+r.Below(3), x.tapes()...)
		for i := range 3 {
			to := r.Some(n, n)
			to[r.Below(n)] = to[r.Below(n)]
			d := x.rename(i, to)
			if !clash(n, x.tables[i], to) {
				run(b, d)
				made++
				continue
			}
			b.Is(d.what, d.do(b.Desk, "out"), api.ErrLevel)
			b.AsBefore(d.what)
			refused++
		}
	}
	if refused < 20 || made < 20 {
		t.Errorf("%d refused, %d made", refused, made)
	}
}

// TestRenameReadsFirst: that two levels have the same goal is told behind the reading of f; what is met there is told instead. P10.1.
func TestRenameReadsFirst(t *testing.T) {
	const n = 4
	r := bench.Dice(10)
	f := bench.Canon(n, r.Table(n))
	was := bench.Holds(t, 1, bench.Files(f)...)
	rename := func(k *tape.Desk) api.Errno { return calc.Rename(k, "f", []int{0, 1, 2, 2}, "out") } // the deepest two, which are met first
	b := bench.Mount(t, was, 64)
	b.Is("calm", rename(b.Desk), api.ErrLevel)
	calls := b.Disk().Counts()
	if calls.Calls != calls.Reads || calls.Reads < len(f) {
		t.Errorf("it has asked the disk for %+v", calls)
	}
	for i := range f {
		b := bench.Mount(t, was, 64)
		b.Disk().Spoil("f", i, 100)
		b.Is([]any{"spoilt", i}, rename(b.Desk), api.ErrSpoilt)
	}
	for at := range calls.Calls {
		for kind, want := range map[int]api.Errno{api.TrFault: api.ErrFault, api.TrCut: api.ErrOff} {
			b := bench.Mount(t, was, 64, api.Trouble{At: at, Kind: kind})
			b.Is([]any{"trouble", at}, rename(b.Desk), want)
			b.AsBefore(at)
		}
	}
	long := slices.Clone(f) // an end, though it has more records than it says
	b = bench.Lie(t, 1, bench.Files(append(long[:1:1], long...))...)
	b.Is("a wrong file", rename(b.Desk), api.ErrShape)
	b.Is("a wrong file and a wrong list", calc.Rename(b.Desk, "f", []int{0, 1, 2, 4}, "out"), api.ErrLevel)
	b.AsBefore("a wrong file")
}

// TestOutIsNoOperand: it is not there, so it is none. Chapter 10, "The calls".
func TestOutIsNoOperand(t *testing.T) {
	was := bench.Holds(t, 2, wrongs()...)
	for _, c := range calls() {
		if c.in > 0 {
			c.try(t, was, 128, api.ErrExists, "f", "f", "g", "h")
			c.try(t, was, 128, api.ErrNoFile, "no", "no", "no", "no")
		}
	}
}
