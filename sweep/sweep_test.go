package sweep_test

import (
	"testing"

	"strata/api"
	"strata/bench"
	"strata/sweep"
)

// TestAllSmallFunctions: every pair of functions over no level, one and two, leaves among them. P8.2 to P8.6, P8.9, P8.11.
func TestAllSmallFunctions(t *testing.T) {
	r := dice{1}
	for n := range 3 {
		all := 1 << (1 << n)
		for f := range all {
			for g := range all {
				runAll(t, trioOf(n, bench.Number(n, f), bench.Number(n, g), bench.Number(n, r.Below(all))), &r, 1+r.Below(3), 64*3)
			}
		}
	}
}

// TestThreeSmallFunctions: every three functions over one level. P8.3, P8.9.
func TestThreeSmallFunctions(t *testing.T) {
	for f := range 4 {
		for g := range 4 {
			for h := range 4 {
				x := trioOf(1, bench.Number(1, f), bench.Number(1, g), bench.Number(1, h))
				lie(t, 1, x.lists[:]...).run(x.three(0, 1, 2))
			}
		}
	}
}

// TestBlocksAndBudgets: functions over more levels, over unlike blocks and budgets, the least among them. P8.9 to P8.11, G9.
func TestBlocksAndBudgets(t *testing.T) {
	r := dice{2}
	for n := 3; n < 8; n++ {
		for round := range 6 {
			f, g, h := r.Table(n), r.Table(n), r.Thin(n)
			if round%3 == 1 {
				f, g = r.Thin(n), r.Thin(n)
			}
			x := trioOf(n, f, g, h)
			for _, c := range []struct{ k, more int }{{1, 0}, {1, 1 + r.Below(200)}, {2, 0}, {3, r.Below(9)}, {31, 0}, {300, 7}} {
				runAll(t, x, &r, c.k, api.LeastK*c.k+c.more)
			}
		}
	}
}

// TestGreatOnes: diagrams of which a level has many times what the least purse holds. P8.9, G9.
func TestGreatOnes(t *testing.T) {
	r := dice{3}
	const n = 12
	x := trioOf(n, r.Table(n), r.Table(n), r.Thin(n))
	for _, j := range []job{x.two(api.OpAnd, 0, 1), x.two(api.OpXor, 1, 1), x.three(2, 0, 1), x.fix(0, r.Lits(n, 1)), x.fix(0, r.Lits(n, 5)), x.quant(0, 0, true), x.quant(0, 6, false), x.quant(1, n-1, true), x.swap(0, 0), x.swap(1, 7), x.swap(0, n-2)} {
		for _, c := range []struct{ k, free int }{{1, 64}, {1, 500}, {2, 128}, {15, 64 * 15}, {40, 1 << 30}} {
			mount(t, bench.Holds(t, c.k, x.tapes()...), c.free).run(j)
		}
	}
}

// TestNames: what the two tapes are called, whatever the name; and the longest name that may be. P8.1.
func TestNames(t *testing.T) {
	for _, name := range []string{"", "a", "a.i", "A", "0123456789012345678901234567890123456789", "\x00\xff", "tmp-1"} {
		if sweep.Inner(name) != name+".i" || sweep.Outer(name) != name+".o" {
			t.Errorf("%q: %q, %q", name, sweep.Inner(name), sweep.Outer(name))
		}
	}
	x := trioOf(2, bench.Number(2, 8), bench.Number(2, 6), bench.Number(2, 9))
	for _, c := range []struct {
		out  string
		want api.Errno
	}{
		{"012345678901234567890123456789", api.OK}, {"0123456789012345678901234567890", api.ErrName}, {"", api.OK}, {"A", api.ErrName}, {"a b", api.ErrName}, {"x.i", api.OK}, {"-", api.OK},
	} {
		b := lie(t, 1, x.lists[:]...)
		for _, j := range x.jobs(new(dice)) {
			b.Is([]any{j.what, c}, j.do(b.Desk, c.out), c.want)
			if c.want == api.OK {
				b.made([]any{j.what, c}, c.out, j.inner, j.outer)
				b.clear(c.out)
			}
			b.AsBefore(c)
		}
		_, _, e := sweep.Arcs(b.Desk, c.out)
		if want := c.want; want == api.OK && e != api.ErrNoFile || want != api.OK && e != want {
			t.Errorf("Arcs(%q): %d", c.out, e)
		}
		b.Is(c, sweep.Lay(b.Desk, nil, api.Info{Root: T}, c.out), c.want)
	}
}

// TestTempNames: an out that the desk itself has told as that of a temporary, and files of a temporary's name that are there. DOC.md, the words.
func TestTempNames(t *testing.T) {
	r := dice{4}
	x := trioOf(5, r.Table(5), r.Table(5), r.Table(5))
	b := lie(t, 1, x.lists[:]...)
	for range 5 {
		b.Temp() // tapes of arcs of some of these names are there
	}
	for _, j := range x.jobs(&r) {
		out := b.Temp()
		b.Is(j.what, j.do(b.Desk, out), api.OK)
		b.made(j.what, out, j.inner, j.outer)
		b.clear(out)
		b.AsBefore(j.what)
	}
}

// chain is a node file over n levels, a node at each: true where all levels have the truths that the dice say.
func (r *dice) chain(n int) ([]api.Rec, []api.Lit) {
	var list []api.Rec
	lits := make([]api.Lit, n)
	to := uint64(T)
	for l := n - 1; l >= 0; l-- {
		lits[l] = api.Lit{Level: l, Value: r.Below(2) == 1}
		node := api.Rec{uint64(l) * ids, to, uint64(F)}
		if lits[l].Value {
			node[1], node[2] = node[2], node[1]
		}
		list = append(list, node)
		to = node[0]
	}
	return append(list, bench.End(n, 0, n)), lits
}

// TestAllLevels: a diagram over as many levels as there may be. MaxVars; P8.2 to P8.6.
func TestAllLevels(t *testing.T) {
	const n = api.MaxVars
	r := dice{5}
	list, lits := r.chain(n)
	d := diagramOf(list)
	b := mount(t, bench.Holds(t, 7, bench.Files(list)...), 64*7)
	check := func(what string, e api.Errno, inner, outer []api.Rec) {
		t.Helper()
		b.Is(what, e, api.OK)
		b.made(what, "out", inner, outer)
		b.clear("out")
	}
	inner, outer := twoOf(api.OpAnd, d, d)
	check("Two", sweep.Two(b.Desk, api.OpAnd, "f", "f", "out"), inner, outer)
	check("Fix of all", sweep.Fix(b.Desk, "f", lits, "out"), nil, []api.Rec{bench.End(n, T, 0)})
	half := lits[n/2:]
	inner, outer = fixOf(d, half[:1])
	check("Fix of one", sweep.Fix(b.Desk, "f", half[:1], "out"), inner, outer)
	for _, l := range []int{0, 1, n - 2, n - 1} {
		inner, outer = quantOf(d, l, true)
		check("Quant", sweep.Quant(b.Desk, "f", l, true, "out"), inner, outer)
		b.Is("Swap", sweep.Swap(b.Desk, "f", l, "out"), map[bool]api.Errno{true: api.ErrLevel}[l == n-1])
		if l < n-1 {
			inner, outer = swapOf(d, l)
			b.made("Swap", "out", inner, outer)
			b.clear("out")
		}
	}
	b.AsBefore("all")
}

// TestSameAgain: the same call on the same disk and purse makes the same numbered calls. G2, G7.
func TestSameAgain(t *testing.T) {
	r := dice{6}
	x := trioOf(6, r.Table(6), r.Table(6), r.Table(6))
	for _, j := range x.jobs(&r) {
		var last api.Counts
		for i := range 3 {
			b := lie(t, 1, x.lists[:]...)
			b.run(j)
			if n := b.Disk().Counts(); i > 0 && n != last {
				t.Errorf("%s: %+v, then %+v", j.what, last, n)
			}
			last = b.Disk().Counts()
		}
	}
}

// TestLits: the list of literals stays as it was, its spare room too; nil and empty are the same; the order says nothing. G3, G4, P8.4.
func TestLits(t *testing.T) {
	r := dice{7}
	x := trioOf(6, r.Table(6), r.Table(6), r.Table(6))
	b := lie(t, 1, x.lists[:]...)
	for some := range 7 {
		room := append(r.Lits(6, some), api.Lit{Level: 77, Value: true}, api.Lit{Level: -5})
		was := append([]api.Lit(nil), room...)
		lits := room[:some]
		b.run(x.fix(0, lits))
		b.clear("out")
		for i := range room {
			if room[i] != was[i] {
				t.Errorf("a literal has been changed: %v, was %v", room, was)
			}
		}
		turned := append([]api.Lit(nil), lits...)
		for i := range turned {
			turned[i] = lits[some-1-i]
		}
		j := x.fix(0, turned)
		j.inner, j.outer = fixOf(x.diagram(0), lits)
		b.run(j)
		b.clear("out")
	}
	b.run(x.fix(0, nil))
	b.clear("out")
	b.run(x.fix(0, []api.Lit{}))
}
