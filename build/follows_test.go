package build_test

import (
	"slices"
	"testing"

	"strata/api"
	"strata/bench"
	"strata/build"
	"strata/calc"
	"strata/formula"
	"strata/nodes"
)

// maker makes files, and tells their names.
type maker struct{ bench.Maker }

func newMaker(t *testing.T, k int) maker {
	t.Helper()
	return maker{bench.NewMaker(bench.Lie(t, k))}
}

func (m maker) formula(n int, f []api.Fnode, at []int) string {
	m.Helper()
	return m.Make(func(out string) api.Errno { return build.Formula(m.Desk, n, f, at, out) })
}

func (m maker) cnf(n int, c api.Cnf, at []int) string {
	m.Helper()
	return m.Make(func(out string) api.Errno { return build.Cnf(m.Desk, n, c, at, out) })
}

func (m maker) line(n int, c api.Circuit, place int, at []int) string {
	m.Helper()
	return m.Make(func(out string) api.Errno { return build.Line(m.Desk, n, c, place, at, out) })
}

func (m maker) relation(n int, c api.Circuit, now, next []int) string {
	m.Helper()
	return m.Make(func(out string) api.Errno { return build.Relation(m.Desk, n, c, now, next, out) })
}

// renamed is a formula in which each variable is another one.
func renamed(f []api.Fnode, to []int) []api.Fnode {
	out := slices.Clone(f)
	for i, n := range f {
		if n.Op == api.FoVar || n.Op == api.FoExists || n.Op == api.FoForall {
			out[i].N = to[n.N]
		}
	}
	return out
}

// TestFormulasOfOneMeaning: a formula and Parse of its Print, another spelling of it, its variables renamed along with their levels, its table. P15.6.
func TestFormulasOfOneMeaning(t *testing.T) {
	t.Parallel()
	d := newDice(40)
	const n = 5
	for i := range 120 {
		m := newMaker(t, 1+i%3)
		f, at := d.formula(1+d.Below(25), n), d.Some(n, n)
		once := m.formula(n, f, at)
		m.Is("Check", nodes.Check(m.Desk, once), api.OK)
		text, e := formula.Print(f)
		m.Is("Print", e, api.OK)
		m.Same(text, once, m.formula(n, parsed(t, "("+text+") # as it is"), at))
		to := d.Some(n, n)
		goals := make([]int, n)
		for v, w := range to {
			goals[w] = at[v]
		}
		m.Same(text, once, m.formula(n, renamed(f, to), goals))
		m.Same(text, once, m.formula(n, parsed(t, "!!("+text+") & true | false"), at))
		m.Same(text, once, m.formula(n, parsed(t, "ite(x0, "+text+", "+text+")"), at))
		m.Same(text, once, m.Make(func(out string) api.Errno { return build.Table(m.Desk, n, ofFormula(n, f, at).means, out) }))
	}
}

// shuffled are the same clauses in another order, with their literals in another order, some of them doubled.
func (d *dice) shuffled(c api.Cnf) api.Cnf {
	out := api.Cnf{Vars: c.Vars}
	for _, i := range d.Some(len(c.Ends), len(c.Ends)) {
		from := 0
		if i > 0 {
			from = c.Ends[i-1]
		}
		lits := c.Lits[from:c.Ends[i]]
		for range 1 + d.Below(2) {
			for _, j := range d.Some(len(lits), len(lits)) {
				out.Lits = append(out.Lits, slices.Repeat(lits[j:j+1], 1+d.Below(2))...)
			}
			out.Ends = append(out.Ends, len(out.Lits))
		}
	}
	return out
}

// conjunction is the formula of clauses.
func conjunction(c api.Cnf) []api.Fnode {
	f := []api.Fnode{{Op: api.FoConst, N: 1}}
	from := 0
	for _, end := range c.Ends {
		f = append(f, api.Fnode{Op: api.FoConst})
		for _, lit := range c.Lits[from:end] {
			f = append(f, api.Fnode{Op: api.FoVar, N: max(lit, -lit) - 1})
			if lit < 0 {
				f = append(f, node(api.FoNot))
			}
			f = append(f, node(api.FoOr))
		}
		f = append(f, node(api.FoAnd))
		from = end
	}
	return f
}

// TestClausesOfOneMeaning: in another order, doubled, as a formula, printed and read. P15.6.
func TestClausesOfOneMeaning(t *testing.T) {
	t.Parallel()
	d := newDice(41)
	const n = 5
	for i := range 120 {
		m := newMaker(t, 1+i%3)
		c, at := d.cnf(n, d.Below(9), min(1, d.Below(5)), 4), d.Some(n, n)
		once := m.cnf(n, c, at)
		m.Is("Check", nodes.Check(m.Desk, once), api.OK)
		m.Same(c, once, m.cnf(n, d.shuffled(c), at))
		m.Same(c, once, m.formula(n, conjunction(c), at))
		text, e := formula.PrintCnf(c)
		m.Is("PrintCnf", e, api.OK)
		again, fault := formula.ParseCnf("c so\n" + text)
		m.Is("ParseCnf", fault.Code, api.OK)
		m.Same(c, once, m.cnf(n, again, at))
	}
}

// TestLinesInAnotherOrder: the points are kept in their own order among themselves. P15.6, P14.8.
func TestLinesInAnotherOrder(t *testing.T) {
	t.Parallel()
	d := newDice(42)
	for i := range 60 {
		m := newMaker(t, 1+i%2)
		c := d.circuit(1+d.Below(3), d.Below(3), d.Below(10))
		latches := len(lines(c, api.GaLatch))
		from := d.inAnotherOrder(c)
		x, to := turned(c, from)
		n := points(c) + latches
		at := d.Some(n, n)
		place := d.Below(len(c.Gates))
		m.Same([]any{c, from}, m.line(n, c, place, at[:points(c)]), m.line(n, x, to[place], at[:points(c)]))
		m.Same([]any{c, from}, m.relation(n, c, at[:latches], at[latches:2*latches]), m.relation(n, x, at[:latches], at[latches:2*latches]))
	}
}

// inAnotherOrder are the places of all lines in any order in which the points stand as they stood.
func (d *dice) inAnotherOrder(c api.Circuit) []int {
	from := d.Some(len(c.Gates), len(c.Gates))
	next := 0
	for i, place := range from {
		if kind := c.Gates[place].Kind; kind == api.GaInput || kind == api.GaLatch {
			from[i] = pointAt(c, next)
			next++
		}
	}
	return from
}

// TestLinesAndFormulas: a gate is the formula of its operator over its operands' lines; a multiplexer an ite. P15.4, P15.7.
func TestLinesAndFormulas(t *testing.T) {
	d := newDice(43)
	for range 40 {
		m := newMaker(t, 1)
		c := d.circuit(2, 2, 6)
		at := d.Some(5, 4)
		for place, g := range c.Gates {
			once := m.line(5, c, place, at)
			switch g.Kind {
			case api.GaGate:
				a, b := m.line(5, c, g.A, at), m.line(5, c, g.B, at)
				m.Same([]any{c, place}, once, m.Make(func(out string) api.Errno { return calc.Apply(m.Desk, g.Op, a, b, out) }))
			case api.GaMux:
				a, b, o := m.line(5, c, g.A, at), m.line(5, c, g.B, at), m.line(5, c, g.C, at)
				m.Same([]any{c, place}, once, m.Make(func(out string) api.Errno { return calc.Ite(m.Desk, a, b, o, out) }))
			}
		}
	}
}

// TestFormulasAndCalc: the file of an operator's formula is what calc makes of its operands' files. P15.7.
func TestFormulasAndCalc(t *testing.T) {
	t.Parallel()
	d := newDice(44)
	const n = 4
	for i := range 60 {
		m := newMaker(t, 1+i%3)
		at := d.Some(n, n)
		f, g, h := d.formula(1+d.Below(9), n), d.formula(1+d.Below(9), n), d.formula(1+d.Below(9), n)
		a, b, c := m.formula(n, f, at), m.formula(n, g, at), m.formula(n, h, at)
		for op, by := range map[int]int{api.FoAnd: api.OpAnd, api.FoOr: api.OpOr, api.FoXor: api.OpXor, api.FoImp: api.OpImp, api.FoIff: api.OpIff} {
			m.Same([]any{f, g, op}, m.formula(n, append(slices.Concat(f, g), node(op)), at), m.Make(func(out string) api.Errno { return calc.Apply(m.Desk, by, a, b, out) }))
		}
		m.Same(f, m.formula(n, append(slices.Clone(f), node(api.FoNot)), at), m.Make(func(out string) api.Errno { return calc.Not(m.Desk, a, out) }))
		m.Same([]any{f, g, h}, m.formula(n, append(slices.Concat(f, g, h), node(api.FoIte)), at), m.Make(func(out string) api.Errno { return calc.Ite(m.Desk, a, b, c, out) }))
		for v := range n {
			m.Same([]any{f, v}, m.formula(n, append(slices.Clone(f), api.Fnode{Op: api.FoExists, N: v}), at), m.Make(func(out string) api.Errno { return calc.Exists(m.Desk, a, at[v:v+1], out) }))
			m.Same([]any{f, v}, m.formula(n, append(slices.Clone(f), api.Fnode{Op: api.FoForall, N: v}), at), m.Make(func(out string) api.Errno { return calc.Forall(m.Desk, a, at[v:v+1], out) }))
		}
	}
}

// TestRelationsAndLines: the relation is the conjunction of what each latch says, with the inputs quantified. P15.5.
func TestRelationsAndLines(t *testing.T) {
	t.Parallel()
	d := newDice(45)
	const inputs, latches = 3, 3
	const n = 2*latches + inputs
	for range 40 {
		m := newMaker(t, 2)
		c := d.circuit(inputs, latches, 9)
		levels := d.Some(2*latches, 2*latches)
		now, next := levels[:latches], levels[latches:]
		at, of := make([]int, 0, inputs+latches), [2]int{}
		for i := range inputs + latches {
			if c.Gates[pointAt(c, i)].Kind == api.GaInput {
				at = append(at, 2*latches+of[0])
				of[0]++
			} else {
				at = append(at, now[of[1]])
				of[1]++
			}
		}
		all := m.Make(func(out string) api.Errno { return calc.Const(m.Desk, n, true, out) })
		for i, place := range lines(c, api.GaLatch) {
			value := m.line(n, c, c.Gates[place].A, at)
			then := m.Make(func(out string) api.Errno { return calc.Var(m.Desk, n, next[i], out) })
			same := m.Make(func(out string) api.Errno { return calc.Apply(m.Desk, api.OpIff, value, then, out) })
			was := all
			all = m.Make(func(out string) api.Errno { return calc.Apply(m.Desk, api.OpAnd, was, same, out) })
		}
		some := m.Make(func(out string) api.Errno {
			return calc.Exists(m.Desk, all, []int{2 * latches, 2*latches + 1, 2*latches + 2}, out)
		})
		m.Same(c, some, m.relation(n, c, now, next))
	}
}
