package engine_test

import (
	"fmt"
	"slices"
	"testing"

	"strata/api"
	"strata/bench"
	"strata/disk"
	"strata/engine"
	"strata/tape"
)

// room is so much that no disk here is full.
const room = 1 << 30

// rig is an engine on a disk, beside the model of it.
type rig struct {
	*testing.T
	d *disk.Disk
	e *engine.Engine
	m *model
	o api.Options
}

// options are such that nothing is refused for them.
func options(vars, k int) api.Options { return api.Options{Vars: vars, Budget: 64 * k, Ids: 1 << 40} }

// begin is an engine on a new disk.
func begin(t *testing.T, k, blocks int, o api.Options, troubles ...api.Trouble) *rig {
	t.Helper()
	d, e := disk.New(api.Setup{Block: 32 * (k + 1), Blocks: blocks, Troubles: troubles})
	if e != api.OK {
		t.Fatalf("disk.New: %d", e)
	}
	r := &rig{T: t, d: d, o: o, m: newModel(k, blocks, o)}
	if r.e, e = engine.Open(d, o); e != api.OK || r.e == nil {
		t.Fatalf("Open: %d", e)
	}
	r.rests("a new disk")
	return r
}

// mount is a disk that holds what a model tells, or another state.
func mount(t *testing.T, st api.State, blocks int, troubles ...api.Trouble) *disk.Disk {
	t.Helper()
	d, e := disk.Mount(st, api.Setup{Block: st.Block, Blocks: blocks, Troubles: troubles})
	if e != api.OK {
		t.Fatalf("Mount: %d", e)
	}
	return d
}

// opened is an engine on a disk that holds what a model tells.
func opened(t *testing.T, m *model, o api.Options, troubles ...api.Trouble) *rig {
	t.Helper()
	r := &rig{T: t, d: mount(t, m.state(), m.blocks, troubles...), o: o, m: m.clone()}
	e := api.OK
	if r.e, e = engine.Open(r.d, o); e != api.OK || r.e == nil {
		t.Fatalf("Open: %d", e)
	}
	return r
}

// tells fails the test unless the engine tells from memory what the model says. P18.6.
func (r *rig) tells(what any, m *model) {
	r.Helper()
	if got := r.e.Order(); !slices.Equal(got, m.table.Order) {
		r.Fatalf("%v: order %v, want %v", what, got, m.table.Order)
	}
	if got := r.e.Handles(); !slices.Equal(got, m.handles()) {
		r.Fatalf("%v: handles %v, want %v", what, got, m.handles())
	}
	for _, row := range m.table.Rows {
		if got, e := r.e.File(row.Handle); got != fileName(row.File) || e != api.OK {
			r.Fatalf("%v: file of %d: %q, %d, want %d", what, row.Handle, got, e, row.File)
		}
	}
	for _, h := range []int{-1, 0, m.table.Next, 1 << 31, 1 << 62} {
		if got, e := r.e.File(h); got != "" || e != api.ErrHandle {
			r.Fatalf("%v: file of %d: %q, %d", what, h, got, e)
		}
	}
	if peak := r.e.Peak(); peak < 0 || peak > r.o.Budget {
		r.Fatalf("%v: peak %d", what, peak)
	}
}

// rests fails the test unless the engine and its disk are as the model says, at rest: each file the canonical one, nothing else there, no record out. W2, W5, G10.
func (r *rig) rests(what any) {
	r.Helper()
	r.tells(what, r.m)
	if got, want := r.d.State(), r.m.state(); !sameState(got, want) {
		r.Fatalf("%v: the disk holds %v, want %v", what, namesIn(got), namesIn(want))
	}
	calls := r.d.Counts().Calls
	no := r.e.Look(func(k *tape.Desk) api.Errno {
		if used := k.Purse().Used(); used != 0 || k.Purse().Limit() != r.o.Budget || k.Disk() != r.d {
			r.Fatalf("%v: %d of %d records are out", what, used, k.Purse().Limit())
		}
		return api.OK
	})
	if no != api.OK || r.d.Counts().Calls != calls {
		r.Fatalf("%v: Look: %d", what, no)
	}
}

// blames fails the test unless an answer tells what the disk has refused. G7.
func (r *rig) blames(what any, was api.Counts, got, want answer) {
	r.Helper()
	now := r.d.Counts()
	faults, full := now.Faults-was.Faults, now.Full-was.Full
	code := got.fault.Code
	switch {
	case faults+full > 1, (code == api.ErrOff) == r.d.On():
	case code == api.ErrOff:
		return
	case (code == api.ErrFault) != (faults > 0):
	case full > 0 && code != api.ErrFull, full == 0 && code == api.ErrFull && want.fault.Code != api.ErrFull:
	case faults+full == 0 && got != want:
	case faults+full > 0 && got != refused(code):
	default:
		return
	}
	r.Fatalf("%v: %+v, want %+v; the disk has counted %+v, then %+v", what, got, want, was, now)
}

// does makes a call, and looks at all that is promised of it, whatever has befallen it. W1, W2, W5, W6.
func (r *rig) does(a act) answer {
	r.Helper()
	ahead, was, peak := r.m.clone(), r.d.Counts(), r.e.Peak()
	got := a.do(r.e)
	want := a.say(r.m)
	r.blames(a.what, was, got, want)
	switch got.fault.Code {
	case api.ErrOff:
		r.isOff(a, ahead, peak)
	case want.fault.Code:
		r.rests(a.what)
	default:
		r.m = ahead
		r.rests(a.what)
	}
	return got
}

// isOff fails the test unless an engine whose power went off in a step tells what it told ahead of it, and refuses all else. P18.7.
func (r *rig) isOff(a act, ahead *model, peak int) {
	r.Helper()
	r.tells(a.what, ahead)
	if got := r.e.Peak(); got != peak {
		r.Fatalf("%s: peak %d, it was %d", a.what, got, peak)
	}
	held := r.d.State()
	for _, b := range append(everyCall(ahead.handles()), a) {
		if got := b.do(r.e); got != refused(api.ErrOff) {
			r.Fatalf("%s behind %s: %+v", b.what, a.what, got)
		}
	}
	r.tells(a.what, ahead)
	if !sameState(r.d.State(), held) {
		r.Fatalf("%s: a disk without power has changed", a.what)
	}
}

// does all of these.
func (r *rig) script(acts ...act) {
	r.Helper()
	for _, a := range acts {
		r.does(a)
	}
}

// is fails the test unless an act answers that.
func (r *rig) is(a act, want answer) {
	r.Helper()
	if got := r.does(a); got != want {
		r.Fatalf("%s: %+v, want %+v", a.what, got, want)
	}
}

// everyCall is each call that needs the power, over handles that there may be.
func everyCall(handles []int) []act {
	h := func(i int) int { return append(handles, 1, 2, 3)[i] }
	lit := api.Lit{Level: 0, Value: true}
	return []act{constant(true), variable(0), cube(lit), text("x0"), clauses("p cnf 1 1\n1 0\n"), load(1, []bool{false, true}),
		not(h(0)), apply(api.OpAnd, h(0), h(1)), ite(h(0), h(1), h(2)), restrict(h(0), lit), exists(h(0), 0), forall(h(0), 0),
		compose(h(0), 0, h(1)), rename(h(0), 0), copyOf(h(0)), free(h(0)), swap(0), reorder(1, 0), sift(), count(h(0)), density(h(0)),
		nodesOf(h(0)), support(h(0)), first(h(0)), eval(h(0), true), equal(h(0), h(1)), dump(h(0)), own(h(0), api.OK), look(h(0), h(1), api.OK),
		not(-1), text("("), reorder(7), swap(-1), noLoad("", api.ErrText, 1, 1)}
}

// table3 are functions over three variables.
func table3() []act {
	return []act{text("x0 & x1 | x2"), text("x0 ^ x1 ^ x2"), variable(1), constant(false), copyOf(1)}
}

// busy is an engine over three variables with some handles, in an order of its own; two of them have one file.
func busy(t *testing.T, k int) *rig {
	t.Helper()
	r := begin(t, k, room, options(3, k))
	r.script(append(table3(), reorder(2, 0, 1), text("x0 -> x2"), free(3))...)
	return r
}

// anyAct is a call with any arguments, most of them right ones.
func anyAct(d *bench.Dice, m *model) act {
	n := m.table.Vars
	h := func() int { return anyHandle(d, m) }
	v := func() int { return d.Below(max(n, 1)) - bench.Side(d.Below(30) == 0)*3 }
	lits := func() []api.Lit { return d.Lits(n, d.Below(n+1)) }
	vars := func() []int { return d.Some(n, d.Below(n+1)) }
	switch d.Below(30) {
	case 0:
		return constant(d.Below(2) == 0)
	case 1:
		return variable(v())
	case 2:
		return cube(lits()...)
	case 3, 4, 5:
		return text(anyFormula(d, n+d.Below(20)/19, 4))
	case 6:
		return clauses(anyClauses(d, n+d.Below(20)/19))
	case 7, 8:
		levels := n + d.Below(10)/9
		return load(levels, d.Table(levels))
	case 9:
		return noLoad("strata 2\n", api.ErrText, 1, 8)
	case 10:
		return not(h())
	case 11, 12, 13:
		return apply(d.Below(16)+d.Below(30)/29*16, h(), h())
	case 14:
		return ite(h(), h(), h())
	case 15:
		return restrict(h(), lits()...)
	case 16:
		return exists(h(), vars()...)
	case 17:
		return forall(h(), vars()...)
	case 18:
		return compose(h(), v(), h())
	case 19:
		return rename(h(), anyGoals(d, n)...)
	case 20:
		return copyOf(h())
	case 21, 22, 23:
		return free(h())
	case 24:
		return swap(d.Below(n+1) - 1 + d.Below(2))
	case 25:
		return reorder(d.Some(n, n)...)
	case 26:
		return sift()
	case 27:
		return own(h(), [...]api.Errno{api.OK, api.OK, api.OK, api.ErrPerm}[d.Below(4)])
	case 28:
		return look(h(), h(), [...]api.Errno{api.OK, api.OK, api.ErrNode}[d.Below(3)])
	}
	return anyAsk(d, m)
}

// anyAsk is a call that asks.
func anyAsk(d *bench.Dice, m *model) act {
	f := anyHandle(d, m)
	switch d.Below(8) {
	case 0:
		return count(f)
	case 1:
		return density(f)
	case 2:
		return nodesOf(f)
	case 3:
		return support(f)
	case 4:
		return first(f)
	case 5:
		return eval(f, m.bits(d.Below(1<<m.table.Vars))...)
	case 6:
		return equal(f, anyHandle(d, m))
	}
	return dump(f)
}

func anyHandle(d *bench.Dice, m *model) int {
	if all := m.handles(); len(all) > 0 && d.Below(40) > 0 {
		return all[d.Below(len(all))]
	}
	return d.Below(m.table.Next+2) - 1
}

// anyGoals is a list for Rename; sometimes two become one.
func anyGoals(d *bench.Dice, n int) []int {
	to := d.Some(n, n)
	if n > 0 && d.Below(3) == 0 {
		to[d.Below(n)] = d.Below(n)
	}
	if d.Below(20) == 0 {
		to = append(to, 0)
	}
	return to
}

// anyFormula is a formula's text.
func anyFormula(d *bench.Dice, n, deep int) string {
	if n == 0 || deep == 0 || d.Below(9) == 0 {
		if n == 0 || d.Below(9) == 0 {
			return []string{"true", "false"}[d.Below(2)]
		}
		return fmt.Sprint("x", d.Below(n))
	}
	part := func() string { return "(" + anyFormula(d, n, deep-1) + ")" }
	switch d.Below(4) {
	case 0:
		return []string{"!", fmt.Sprintf("exists x%d: ", d.Below(n)), fmt.Sprintf("forall x%d: ", d.Below(n))}[d.Below(3)] + part()
	case 1:
		return "ite(" + part() + "," + part() + "," + part() + ")"
	}
	return part() + []string{"&", "|", "^", "->", "<->"}[d.Below(5)] + part()
}

// anyClauses is the text of clauses.
func anyClauses(d *bench.Dice, n int) string {
	many := d.Below(4)
	s := fmt.Sprintf("p cnf %d %d\n", n, many)
	for range many {
		for range d.Below(4) * min(n, 1) {
			s += fmt.Sprint((1+d.Below(n))*(1-2*d.Below(2)), " ")
		}
		s += "0\n"
	}
	return s
}

// bare is an engine on a new disk over more variables than a model goes through.
func bare(t *testing.T, k int, o api.Options) *rig {
	t.Helper()
	d, _ := disk.New(api.Setup{Block: 32 * (k + 1), Blocks: room})
	e, no := engine.Open(d, o)
	if no != api.OK {
		t.Fatalf("Open: %d", no)
	}
	return &rig{T: t, d: d, e: e, o: o}
}
