package build_test

import (
	"fmt"
	"math"
	"slices"
	"testing"

	"strata/api"
	"strata/bench"
	"strata/build"
	"strata/tape"
)

// call is one of the calls, and what its arguments alone are refused with; OK: they are not.
type call struct {
	what string
	bad  api.Errno
	do   func(k *tape.Desk, out string) api.Errno
}

// vars are numbers of levels, and what they are refused with ahead of all else.
func vars(most int) map[int]api.Errno {
	return map[int]api.Errno{math.MinInt: api.ErrArg, -1: api.ErrArg, most + 1: api.ErrArg, math.MaxInt: api.ErrArg, 4: api.OK, most: api.OK}
}

// list is a list of levels for so many things over 4 levels.
type list struct {
	at  []int
	bad api.Errno
}

// lists: those that fit, and those with one thing wrong or several. just: there may be no more numbers than things.
func lists(things int, just bool) []list {
	good := []int{2, 0, 3, 1}[:things]
	with := func(i, level int) []int {
		at := slices.Clone(good)
		at[i] = level
		return at
	}
	out := []list{{good, api.OK}, {good[:things-1], api.ErrArg}, {nil, api.ErrArg}, {with(0, -1)[:things-1], api.ErrArg}}
	for i := range good {
		for _, level := range []int{-1, 4, math.MinInt, math.MaxInt, api.MaxVars} {
			out = append(out, list{with(i, level), api.ErrLevel})
		}
		if i > 0 {
			out = append(out, list{with(i, good[0]), api.ErrLevel}, list{with(0, good[i]), api.ErrLevel})
		}
	}
	longer := append(slices.Clone(good), 1)
	long := []list{{longer, api.OK}, {append(longer[:things:things], -1), api.ErrLevel}, {append(longer[:things:things], 4), api.ErrLevel}, {append(longer[:things:things], good[0]), api.ErrLevel}, {[]int{0, 1, 2, 3, 0}, api.ErrLevel}}
	for _, l := range long {
		if just {
			l.bad = api.ErrArg
		}
		out = append(out, l)
	}
	return out
}

// formulaCalls. P15.1.
func formulaCalls() []call {
	right := []api.Fnode{{Op: api.FoVar, N: 1}, {Op: api.FoVar, N: 0}, {Op: api.FoAnd}, {Op: api.FoExists, N: 2}}
	var out []call
	add := func(bad api.Errno, n int, f []api.Fnode, at []int) {
		out = append(out, call{fmt.Sprintf("Formula(%d, %v, %v)", n, f, at), bad, func(k *tape.Desk, out string) api.Errno { return build.Formula(k, n, f, at, out) }})
	}
	for n, bad := range vars(api.MaxVars) {
		add(bad, n, right, []int{2, 0, 3})
		if bad != api.OK {
			add(bad, n, nil, nil)
		}
	}
	for _, l := range lists(3, false) {
		add(l.bad, 4, right, l.at)
	}
	for _, wrong := range [][]api.Fnode{nil, {}, {{}}, {{Op: api.FoNot}}, {{Op: api.FoConst, N: 2}}, {{Op: api.FoVar, N: -1}}, {{Op: api.FoVar, N: api.MaxVars}}, {{Op: 12}}, {{Op: math.MinInt, N: math.MaxInt}}, append(right[:2:2], api.Fnode{Op: api.FoConst}), append(right[:4:4], api.Fnode{Op: api.FoIte}), append(right[:4:4], slices.Repeat([]api.Fnode{{Op: api.FoNot}}, api.MaxDepth)...), slices.Repeat(right[:1], api.MaxTree+1)} {
		add(api.ErrTree, 4, wrong, []int{2, 0, 3})
		add(api.ErrTree, 4, wrong, nil)
		add(api.ErrTree, 4, wrong, []int{-1})
		add(api.ErrArg, -1, wrong, []int{-1})
	}
	add(api.ErrLevel, 0, []api.Fnode{{Op: api.FoConst}}, []int{0})
	add(api.OK, 0, []api.Fnode{{Op: api.FoConst}}, nil)
	add(api.ErrArg, 0, right, nil)
	add(api.ErrLevel, 0, right, []int{0, 1, 2})
	return out
}

// cnfCalls. P15.2.
func cnfCalls() []call {
	right := api.Cnf{Vars: 3, Ends: []int{1, 3}, Lits: []int{1, -2, 1}}
	var out []call
	add := func(bad api.Errno, n int, c api.Cnf, at []int) {
		out = append(out, call{fmt.Sprintf("Cnf(%d, %v, %v)", n, c, at), bad, func(k *tape.Desk, out string) api.Errno { return build.Cnf(k, n, c, at, out) }})
	}
	for n, bad := range vars(api.MaxVars) {
		add(bad, n, right, []int{2, 0, 3})
		if bad != api.OK {
			add(bad, n, api.Cnf{Vars: -1}, nil)
		}
	}
	for _, l := range lists(3, false) {
		add(l.bad, 4, right, l.at)
	}
	for _, wrong := range []api.Cnf{{Vars: -1}, {Vars: api.MaxVars + 1}, {Vars: math.MaxInt}, {Vars: 3, Lits: []int{1}}, {Vars: 3, Ends: []int{1}}, {Vars: 3, Ends: []int{2, 1}, Lits: []int{1, 1}}, {Vars: 3, Ends: []int{-1, 1}, Lits: []int{1}}, {Vars: 3, Ends: []int{1}, Lits: []int{0}}, {Vars: 3, Ends: []int{1}, Lits: []int{4}}, {Vars: 3, Ends: []int{1}, Lits: []int{math.MinInt}}, {Ends: make([]int, api.MaxClause+1)}} {
		add(api.ErrTree, 4, wrong, []int{2, 0, 3})
		add(api.ErrTree, 4, wrong, nil)
		add(api.ErrTree, 4, wrong, []int{-1})
	}
	add(api.ErrArg, 2, api.Cnf{Vars: 3}, []int{0, 1})
	add(api.ErrLevel, 2, api.Cnf{Vars: 3}, []int{0, 1, 2})
	add(api.ErrLevel, 2, api.Cnf{}, []int{1, 1})
	return out
}

// tableCalls. P15.3.
func tableCalls() []call {
	var out []call
	add := func(bad api.Errno, n int, table []bool) {
		out = append(out, call{fmt.Sprintf("Table(%d) of %d truths", n, len(table)), bad, func(k *tape.Desk, out string) api.Errno { return build.Table(k, n, table, out) }})
	}
	for n, bad := range vars(api.MaxTable) {
		for _, many := range []int{0, 1, 15, 16, 17, 1<<20 - 1, 1 << 20, 1<<20 + 1} {
			want := bad
			if want == api.OK && many != 1<<n {
				want = api.ErrTable
			}
			add(want, n, make([]bool, many))
		}
	}
	add(api.ErrTable, 0, nil)
	add(api.ErrTable, 0, make([]bool, 2))
	add(api.OK, 0, make([]bool, 1))
	return out
}

// wrongNets are values that are no circuits.
func wrongNets() []api.Circuit {
	return []api.Circuit{{}, {Name: "1"}, {Gates: []api.Gate{input("a")}}, net(api.Gate{Name: "a"}), net(input("a"), input("a")), net(gate("a", 8, 0, 0)), net(input("a"), gate("g", 16, 0, 0)), net(input("a"), gate("g", 8, 0, 2)), net(latch("l", -1)), net(mux("m", 1, 1, 1), mux("k", 0, 0, 0)), {Name: "c", Outs: []int{0}}, net(make([]api.Gate, api.MaxGates+1)...)}
}

// lineCalls. P15.4.
func lineCalls() []call {
	right := net(input("a"), gate("g", api.OpXor, 0, 2), latch("l", 1), input("b"))
	var out []call
	add := func(bad api.Errno, n int, c api.Circuit, place int, at []int) {
		out = append(out, call{fmt.Sprintf("Line(%d, %.99v, %d, %v)", n, c, place, at), bad, func(k *tape.Desk, out string) api.Errno { return build.Line(k, n, c, place, at, out) }})
	}
	for n, bad := range vars(api.MaxVars) {
		add(bad, n, right, 1, []int{2, 0, 3})
		if bad != api.OK {
			add(bad, n, api.Circuit{}, -1, nil)
		}
	}
	for _, l := range lists(3, true) {
		add(l.bad, 4, right, 1, l.at)
		add(l.bad, 4, right, 3, l.at)
	}
	for _, place := range []int{-1, 4, math.MinInt, math.MaxInt} {
		add(api.ErrArg, 4, right, place, []int{2, 0, 3})
		add(api.ErrArg, 4, right, place, []int{0, 0, 9})
	}
	for _, wrong := range wrongNets() {
		add(api.ErrNet, 4, wrong, 0, nil)
		add(api.ErrNet, 4, wrong, -1, []int{-1})
	}
	add(api.ErrArg, 4, net(), 0, nil)
	return out
}

// relationCalls. P15.5.
func relationCalls() []call {
	right := net(input("a"), gate("g", api.OpXor, 0, 2), latch("l", 1), input("b"), latch("m", 3))
	var out []call
	add := func(bad api.Errno, n int, c api.Circuit, now, next []int) {
		out = append(out, call{fmt.Sprintf("Relation(%d, %.99v, %v, %v)", n, c, now, next), bad, func(k *tape.Desk, out string) api.Errno { return build.Relation(k, n, c, now, next, out) }})
	}
	for n, bad := range vars(api.MaxVars) {
		if n == api.MaxVars {
			bad = api.ErrMany
		}
		add(bad, n, right, []int{2, 0}, []int{1, 3})
		if bad == api.ErrArg {
			add(bad, n, api.Circuit{}, nil, nil)
		}
	}
	for n, bad := range map[int]api.Errno{api.MaxVars - 2: api.OK, api.MaxVars - 1: api.ErrMany} {
		add(bad, n, right, []int{2, 0}, []int{1, 3})
	}
	add(api.ErrMany, api.MaxVars-1, right, nil, nil)
	add(api.ErrMany, api.MaxVars, right, []int{0, 0}, []int{-1, -1})
	for _, wrong := range wrongNets() {
		add(api.ErrNet, 4, wrong, nil, nil)
		add(api.ErrNet, api.MaxVars, wrong, []int{0, 0}, nil)
	}
	for _, l := range lists(2, true) {
		for _, m := range lists(2, true) {
			next := slices.Clone(m.at) // the same, but for levels that are not those of now
			for i, level := range next {
				if level >= 0 && level < 4 {
					next[i] = []int{1, 3, 3, 1}[level] // 2 and 0 become 3 and 1
				}
			}
			bad := l.bad
			if bad == api.OK {
				bad = m.bad
			}
			add(bad, 4, right, l.at, next)
		}
	}
	for _, next := range [][]int{{2, 1}, {1, 2}, {0, 2}, {2, 0}, {3, 0}} {
		add(api.ErrLevel, 4, right, []int{2, 0}, next)
	}
	add(api.OK, 4, right, []int{2, 0}, []int{3, 1})
	add(api.OK, 0, net(), nil, nil)
	add(api.ErrArg, 4, net(), []int{0}, nil)
	add(api.ErrArg, 4, net(), nil, []int{0})
	return out
}

func calls() []call {
	return slices.Concat(formulaCalls(), cnfCalls(), tableCalls(), lineCalls(), relationCalls())
}

// try makes a call and looks at its refusal, and that the disk is not asked for it.
func (c call) try(t *testing.T, was api.State, free int, want api.Errno, out string) {
	t.Helper()
	if c.bad != api.OK {
		want = c.bad
	}
	what := []any{c.what, c.bad, free, out}
	b := bench.Mount(t, was, free)
	b.Is(what, c.do(nil, out), api.ErrArg)
	b.Is(what, c.do(b.Desk, out), want)
	if want == api.OK {
		b.Stays(what)
		return
	}
	b.AsBefore(what)
	if n := b.Disk().Counts().Calls; n > 0 {
		t.Errorf("%+v: the disk was asked", what)
	}
}

// TestRefusals: in the order of G7. P15.1 to P15.5.
func TestRefusals(t *testing.T) {
	const k = 2
	const least = api.LeastK * k
	was := bench.Holds(t, k, bench.Files([]api.Rec{bench.End(4, T, 0)})...)
	for _, c := range calls() {
		c.try(t, was, least, api.OK, "out")
		c.try(t, was, least-1, api.ErrBudget, "out")
		c.try(t, was, 0, api.ErrBudget, "out")
		c.try(t, was, 0, api.ErrName, "")
		c.try(t, was, 0, api.ErrName, "Out")
		c.try(t, was, least, api.ErrName, "this-name-is-longer-than-32-bytes")
		c.try(t, was, 0, api.ErrExists, "f")
		c.try(t, was, least, api.ErrExists, "open")
	}
}

// TestWithoutPower: ahead of all but a nil desk. G7.
func TestWithoutPower(t *testing.T) {
	b := bench.Mount(t, bench.Holds(t, 1), 64, api.Trouble{At: 0, Kind: api.TrCut})
	b.Disk().Create("cut")
	for _, c := range calls() {
		for _, name := range []string{"f", "A", "out", ""} {
			b.Is(c.what, c.do(b.Desk, name), api.ErrOff)
			b.Is(c.what, c.do(nil, name), api.ErrArg)
		}
	}
	b.AsBefore("all")
}

// TestClosedPart: nothing is free in it. G7.
func TestClosedPart(t *testing.T) {
	d := newDice(20)
	b := bench.Mount(t, bench.Holds(t, 1), 999)
	part, _ := b.Purse().Part(500)
	k, _ := tape.NewDesk(b.Disk(), part)
	all := d.deeds(t, 4)
	for _, x := range all {
		b.Is(x.what, x.do(k, "out"), api.OK)
		b.Disk().Delete("out")
	}
	part.Close()
	for _, x := range all {
		b.Still(x.what, func() { b.Is(x.what, x.do(k, "out"), api.ErrBudget) })
	}
	b.AsBefore("a closed part")
}
