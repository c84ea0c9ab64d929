package calc_test

import (
	"slices"
	"testing"

	"strata/api"
	"strata/bench"
	"strata/calc"
	"strata/tape"
)

// maker makes files of files, and tells their names.
type maker struct{ bench.Maker }

func (m maker) constant(n int, v bool) string {
	m.Helper()
	return m.Make(func(out string) api.Errno { return calc.Const(m.Desk, n, v, out) })
}

func (m maker) variable(n, level int) string {
	m.Helper()
	return m.Make(func(out string) api.Errno { return calc.Var(m.Desk, n, level, out) })
}

func (m maker) not(f string) string {
	m.Helper()
	return m.Make(func(out string) api.Errno { return calc.Not(m.Desk, f, out) })
}

func (m maker) apply(op int, f, g string) string {
	m.Helper()
	return m.Make(func(out string) api.Errno { return calc.Apply(m.Desk, op, f, g, out) })
}

func (m maker) ite(f, g, h string) string {
	m.Helper()
	return m.Make(func(out string) api.Errno { return calc.Ite(m.Desk, f, g, h, out) })
}

func (m maker) restrict(f string, lits ...api.Lit) string {
	m.Helper()
	return m.Make(func(out string) api.Errno { return calc.Restrict(m.Desk, f, lits, out) })
}

// quantifier is Exists or Forall.
type quantifier func(k *tape.Desk, f string, levels []int, out string) api.Errno

func (m maker) quantify(q quantifier, f string, levels ...int) string {
	m.Helper()
	return m.Make(func(out string) api.Errno { return q(m.Desk, f, levels, out) })
}

func (m maker) compose(f string, level int, g string) string {
	m.Helper()
	return m.Make(func(out string) api.Errno { return calc.Compose(m.Desk, f, level, g, out) })
}

func (m maker) rename(f string, to []int) string {
	m.Helper()
	return m.Make(func(out string) api.Errno { return calc.Rename(m.Desk, f, to, out) })
}

// sets are functions of which some hang on few levels or on none.
func sets(r *bench.Dice, n int) [][3][]bool {
	return [][3][]bool{{r.Table(n), r.Table(n), r.Table(n)}, {r.Thin(n), r.Table(n), r.Thin(n)}, {r.Table(n), never(n), r.Thin(n)}, {never(n), r.Thin(n), r.Table(n)}}
}

// each makes a maker with f, g and h over n levels, for unlike ones.
func each(t *testing.T, do func(r *bench.Dice, n int, x trio, m maker)) {
	t.Helper()
	r := bench.Dice(40)
	for n := range 6 {
		for i, s := range sets(&r, n) {
			x := trioOf(n, s[0], s[1], s[2])
			do(&r, n, x, maker{bench.NewMaker(bench.Lie(t, 1+i, x.tapes()...))})
		}
	}
}

// TestFollowsOfNotAndApply, file by file. P10.4.
func TestFollowsOfNotAndApply(t *testing.T) {
	each(t, func(r *bench.Dice, n int, x trio, m maker) {
		m.Same("Not of Not", m.not(m.not("f")), "f")
		for _, op := range []int{api.OpAnd, api.OpOr, api.OpXor, api.OpNand, api.OpNor, api.OpIff} {
			m.Same(op, m.apply(op, "f", "g"), m.apply(op, "g", "f"))
		}
		m.Same("OpXor of one file", m.apply(api.OpXor, "f", "f"), m.constant(n, false))
		m.Same("OpA", m.apply(api.OpA, "f", "g"), "f")
		m.Same("OpB", m.apply(api.OpB, "f", "g"), "g")
		m.Same("Ite", m.ite("f", "g", "h"), m.apply(api.OpOr, m.apply(api.OpAnd, "f", "g"), m.apply(api.OpLess, "f", "h")))
	})
}

// TestFollowsOfQuantifiers, file by file. P10.4.
func TestFollowsOfQuantifiers(t *testing.T) {
	each(t, func(r *bench.Dice, n int, x trio, m maker) {
		for l := range n {
			low, high := m.restrict("f", api.Lit{Level: l}), m.restrict("f", api.Lit{Level: l, Value: true})
			m.Same([]any{"Exists", l}, m.quantify(calc.Exists, "f", l), m.apply(api.OpOr, low, high))
			m.Same([]any{"Forall", l}, m.quantify(calc.Forall, "f", l), m.apply(api.OpAnd, low, high))
		}
		for many := range n + 1 {
			levels := r.Some(n, many)
			cut := r.Below(many + 1)
			for what, q := range map[string]quantifier{"Exists": calc.Exists, "Forall": calc.Forall} {
				whole := m.quantify(q, "f", levels...)
				m.Same([]any{what, levels, cut}, whole, m.quantify(q, m.quantify(q, "f", levels[:cut]...), levels[cut:]...))
				m.Same([]any{what, levels, cut}, whole, m.quantify(q, m.quantify(q, "f", levels[cut:]...), levels[:cut]...))
				turned := slices.Clone(levels)
				slices.Reverse(turned)
				m.Same([]any{what, levels, turned}, whole, m.quantify(q, "f", turned...))
			}
			m.Same("Forall and Exists", m.quantify(calc.Forall, "f", levels...), m.not(m.quantify(calc.Exists, m.not("f"), levels...)))
		}
	})
}

// TestFollowsOfRestrictAndCompose, file by file. P10.4.
func TestFollowsOfRestrictAndCompose(t *testing.T) {
	each(t, func(r *bench.Dice, n int, x trio, m maker) {
		for l := range n {
			low, high := m.restrict("f", api.Lit{Level: l}), m.restrict("f", api.Lit{Level: l, Value: true})
			m.Same([]any{"Compose", l}, m.compose("f", l, "g"), m.ite("g", high, low))
			m.Same([]any{"Compose with itself", l}, m.compose("f", l, "f"), m.ite("f", high, low))
			m.Same([]any{"Compose with the level", l}, m.compose("f", l, m.variable(n, l)), "f")
		}
		for many := range n + 1 {
			lits := r.Lits(n, many)
			whole := m.restrict("f", lits...)
			turned := slices.Clone(lits)
			slices.Reverse(turned)
			for _, list := range [][]api.Lit{lits, turned} {
				f := "f"
				for _, lit := range list {
					f = m.restrict(f, lit)
				}
				m.Same(list, whole, f)
				m.Same(list, whole, m.restrict("f", list...))
			}
		}
	})
}

// TestFollowsOfRename, file by file. P10.4.
func TestFollowsOfRename(t *testing.T) {
	each(t, func(r *bench.Dice, n int, x trio, m maker) {
		var still []int
		for l := range n {
			still = append(still, l)
		}
		for i := range 3 {
			m.Same("Rename by 0, 1, 2 ..", m.rename(name(i), still), name(i))
			for range 6 {
				to := x.goals(r, i)
				once := m.rename(name(i), to)
				then := trioOf(n, renamed(n, x.tables[i], to), never(n), never(n)).goals(r, 0)
				both := make([]int, n)
				for l, goal := range to {
					both[l] = then[goal]
				}
				m.Same([]any{"Rename", to, then}, m.rename(once, then), m.rename(name(i), both))
			}
		}
	})
}

// TestLevelsThatNothingHangsOn: they may be named, and change nothing. P10.5.
func TestLevelsThatNothingHangsOn(t *testing.T) {
	free := 0
	each(t, func(r *bench.Dice, n int, x trio, m maker) {
		for i := range 3 {
			var levels []int
			for l := range n {
				if !bench.HangsOn(n, x.tables[i], l) {
					levels = append(levels, l)
				}
			}
			free += len(levels)
			var lits []api.Lit
			for _, l := range levels {
				lits = append(lits, api.Lit{Level: l, Value: r.Below(2) == 1})
				m.Same("Restrict", m.restrict(name(i), lits[len(lits)-1]), name(i))
				m.Same("Compose", m.compose(name(i), l, name((i+1)%3)), name(i))
				m.Same("Exists", m.quantify(calc.Exists, name(i), l), name(i))
				m.Same("Forall", m.quantify(calc.Forall, name(i), l), name(i))
			}
			m.Same("Restrict by all", m.restrict(name(i), lits...), name(i))
			m.Same("Exists over all", m.quantify(calc.Exists, name(i), levels...), name(i))
			m.Same("Forall over all", m.quantify(calc.Forall, name(i), levels...), name(i))
		}
	})
	if free < 50 {
		t.Errorf("%d such levels", free)
	}
}
