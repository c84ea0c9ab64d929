package calc_test

import (
	"math"
	"slices"
	"strconv"
	"testing"

	"strata/api"
	"strata/bench"
	"strata/calc"
)

// TestSmallFunctions: each function over few levels, with all that each call may be given. P10.1.
func TestSmallFunctions(t *testing.T) {
	t.Parallel()
	for n := range 3 {
		all := 1 << (1 << n)
		for bits := range all * all {
			x := trioOf(n, bench.Number(n, bits%all), bench.Number(n, bits/all), bench.Number(n, bits%all*7%all))
			b := bench.Lie(t, 1+bits%3, x.tapes()...)
			for op := range 16 {
				run(b, x.apply(op, 0, 1))
			}
			run(b, x.ite(0, 1, 2))
			run(b, x.ite(2, 0, 1))
			for l := range n {
				run(b, x.compose(0, l, 1))
			}
			if bits < all {
				x.runAlone(b)
			}
		}
	}
}

// runAlone makes all calls that read f alone.
func (x trio) runAlone(b bench.Bench) {
	b.Helper()
	run(b, x.not(0))
	for set := range power(3, x.n) { // of each level: not set, false, true
		var lits []api.Lit
		var levels []int
		for l := range x.n {
			if v := set / power(3, l) % 3; v > 0 {
				lits = append(lits, api.Lit{Level: l, Value: v == 2})
				levels = append(levels, l)
			}
		}
		run(b, x.restrict(0, lits))
		run(b, x.quantify(0, levels, set%2 == 0))
		slices.Reverse(lits)
		slices.Reverse(levels)
		run(b, x.restrict(0, lits))
		run(b, x.quantify(0, levels, set%2 == 1))
	}
	x.runRename(b)
}

// runRename makes Rename by each list there is. P10.1.
func (x trio) runRename(b bench.Bench) {
	b.Helper()
	for number := range power(x.n, x.n) {
		var to []int
		for l := range x.n {
			to = append(to, number/power(x.n, l)%x.n)
		}
		d := x.rename(0, to)
		if clash(x.n, x.tables[0], to) {
			b.Is(d.what, d.do(b.Desk, "out"), api.ErrLevel)
			b.AsBefore(d.what)
			continue
		}
		run(b, d)
	}
}

func power(a, b int) int {
	out := 1
	for range b {
		out *= a
	}
	return out
}

// TestEachCube: each set of literals of few levels, in both directions. P10.1.
func TestEachCube(t *testing.T) {
	for n := range 5 {
		b := bench.Lie(t, 1+n%2)
		for set := range power(3, n) {
			var lits []api.Lit
			for l := range n {
				if v := set / power(3, l) % 3; v > 0 {
					lits = append(lits, api.Lit{Level: l, Value: v == 2})
				}
			}
			run(b, cube(n, lits))
			slices.Reverse(lits)
			run(b, cube(n, lits))
		}
	}
}

// TestThreeLevels: each function over three levels, alone. P10.1.
func TestThreeLevels(t *testing.T) {
	t.Parallel()
	for bits := range 256 {
		x := trioOf(3, bench.Number(3, bits), never(3), never(3))
		x.runAlone(bench.Lie(t, 1+bits%2, x.tapes()...))
	}
}

// never is the function that is false.
func never(n int) []bool { return make([]bool, 1<<n) }

// TestUnlikeBlocksAndBudgets: the same records whatever the blocks are, and whatever is in the purse. P10.1, G9.
func TestUnlikeBlocksAndBudgets(t *testing.T) {
	t.Parallel()
	for n := range 8 {
		for _, c := range []struct{ k, more int }{{1, 0}, {1, 1}, {1, 700}, {2, 0}, {3, 50}, {7, 0}, {31, 1}, {2047, 0}} {
			if n > 4 && c.k > 100 { // all is in one block long since
				continue
			}
			r := bench.Dice(n) // the same functions for each
			runAll(t, anyTrio(&r, n), &r, c.k, api.LeastK*c.k+c.more)
		}
	}
}

// TestLargerFunctions: levels with more nodes than the least purse holds. P10.1.
func TestLargerFunctions(t *testing.T) {
	t.Parallel()
	r := bench.Dice(50)
	const n = 11
	x := anyTrio(&r, n)
	for _, k := range []int{1, 5} {
		b := bench.Lie(t, k, x.tapes()...)
		for _, d := range []deed{x.not(0), x.apply(api.OpXor, 0, 1), x.apply(api.OpAnd, 0, 2), x.ite(2, 0, 1), x.restrict(0, r.Lits(n, 4)), x.quantify(0, []int{10, 2, 5}, true), x.quantify(1, []int{0, 9}, false), x.compose(0, 4, 2), x.rename(0, r.Some(n, n))} {
			run(b, d)
		}
	}
}

// TestGreatPurse: a budget that no memory has. G1, G10.
func TestGreatPurse(t *testing.T) {
	t.Parallel()
	r := bench.Dice(8)
	for _, k := range []int{1, 2, 2047} {
		runAll(t, anyTrio(&r, 5), &r, k, math.MaxInt-5)
	}
}

// most is the number of levels of the tests of the edge.
const most = api.MaxVars

// chainOf is the node file over all levels of a conjunction that hangs on these, which rise.
func chainOf(lits ...api.Lit) []api.Rec {
	root := T
	var list []api.Rec
	for i := len(lits) - 1; i >= 0; i-- {
		self := bench.At(lits[i].Level, 0)
		if lits[i].Value {
			list = append(list, api.Rec{uint64(self), uint64(F), uint64(root)})
		} else {
			list = append(list, api.Rec{uint64(self), uint64(root), uint64(F)})
		}
		root = self
	}
	return append(list, bench.End(most, root, len(list)))
}

func nodeFile(name string, list []api.Rec) bench.Strip {
	return bench.Strip{Name: name, Kind: api.KindNodes, List: list}
}

// TestMostLevels: over as many levels as there may be, with lists that have each of them. P10.1.
func TestMostLevels(t *testing.T) {
	var all []api.Lit
	var levels, down []int
	for l := range most {
		all = append(all, api.Lit{Level: l, Value: l%3 > 0})
		levels = append(levels, l)
		down = append(down, most-1-l)
	}
	top, deep := api.Lit{Level: 0, Value: true}, api.Lit{Level: most - 1}
	pair := chainOf(top, deep)
	b := bench.Lie(t, 100, nodeFile("pair", pair), nodeFile("deep", chainOf(api.Lit{Level: most - 1, Value: true})))
	made := func(what string, e api.Errno, list []api.Rec) {
		t.Helper()
		b.Is(what, e, api.OK)
		b.Made(what, nodeFile("out", list))
		b.Disk().Delete("out")
	}
	made("Const", calc.Const(b.Desk, most, true, "out"), []api.Rec{bench.End(most, T, 0)})
	made("Var", calc.Var(b.Desk, most, most-1, "out"), chainOf(api.Lit{Level: most - 1, Value: true}))
	made("Cube", calc.Cube(b.Desk, most, []api.Lit{deep, top}, "out"), pair)
	made("Cube of all", calc.Cube(b.Desk, most, all, "out"), chainOf(all...))
	made("Not", calc.Not(b.Desk, "deep", "out"), chainOf(deep))
	made("Apply", calc.Apply(b.Desk, api.OpAnd, "pair", "deep", "out"), []api.Rec{bench.End(most, F, 0)})
	made("Restrict", calc.Restrict(b.Desk, "pair", []api.Lit{deep}, "out"), chainOf(top))
	made("Restrict by all", calc.Restrict(b.Desk, "pair", all, "out"), []api.Rec{bench.End(most, F, 0)})
	made("Exists", calc.Exists(b.Desk, "pair", levels[1:], "out"), chainOf(top))
	made("Exists over all", calc.Exists(b.Desk, "pair", down, "out"), []api.Rec{bench.End(most, T, 0)})
	made("Forall over all", calc.Forall(b.Desk, "pair", levels, "out"), []api.Rec{bench.End(most, F, 0)})
	made("Compose", calc.Compose(b.Desk, "pair", 0, "deep", "out"), []api.Rec{bench.End(most, F, 0)})
	made("Compose of the deepest", calc.Compose(b.Desk, "deep", most-1, "pair", "out"), pair)
	made("Rename", calc.Rename(b.Desk, "pair", levels, "out"), pair)
	made("Rename down", calc.Rename(b.Desk, "pair", down, "out"), chainOf(api.Lit{Level: 0}, api.Lit{Level: most - 1, Value: true}))
	b.AsBefore("all")
}

// TestNoLevels: over none there are two functions, and no level to name. P10.1.
func TestNoLevels(t *testing.T) {
	b := bench.Lie(t, 1, bench.Files(bench.Canon(0, []bool{false}), bench.Canon(0, []bool{true}))...)
	for what, e := range map[string]api.Errno{
		"Var": calc.Var(b.Desk, 0, 0, "out"), "Cube": calc.Cube(b.Desk, 0, []api.Lit{{}}, "out"), "Restrict": calc.Restrict(b.Desk, "f", []api.Lit{{}}, "out"),
		"Exists": calc.Exists(b.Desk, "f", []int{0}, "out"), "Forall": calc.Forall(b.Desk, "g", []int{0}, "out"),
		"Compose": calc.Compose(b.Desk, "f", 0, "g", "out"), "Rename": calc.Rename(b.Desk, "f", []int{0}, "out"),
	} {
		b.Is(what, e, api.ErrLevel)
	}
	b.AsBefore("all")
}

// TestListsStay: what is handed in is neither changed nor written over behind its end. G3, G4.
func TestListsStay(t *testing.T) {
	r := bench.Dice(4)
	const n = 5
	x := anyTrio(&r, n)
	b := bench.Lie(t, 2, x.tapes()...)
	lits := []api.Lit{{Level: 3, Value: true}, {Level: 0}, {Level: 4}, {Level: 77}}
	levels := []int{3, 0, 4, 1, 2, 77, 78}
	asLits, asLevels := slices.Clone(lits), slices.Clone(levels)
	for _, d := range []deed{cube(n, lits[:3]), x.restrict(0, lits[:3]), x.quantify(0, levels[:3], true), x.quantify(0, levels[:5], false), x.rename(0, levels[:5])} {
		run(b, d)
		if !slices.Equal(lits, asLits) || !slices.Equal(levels, asLevels) {
			t.Fatalf("%s: %v, %v", d.what, lits, levels)
		}
	}
	for _, d := range []deed{cube(n, nil), cube(n, []api.Lit{}), x.restrict(0, nil), x.restrict(0, []api.Lit{}), x.quantify(0, nil, true), x.quantify(0, []int{}, false)} {
		run(b, d)
	}
}

// TestOutIsATemporary: out may be a name that the desk has given. DOC.md, Temporary.
func TestOutIsATemporary(t *testing.T) {
	r := bench.Dice(5)
	x := anyTrio(&r, 4)
	b := bench.Lie(t, 1, x.tapes()...)
	for _, d := range x.deeds(&r) {
		out := b.Temp()
		b.Is(d.what, d.do(b.Desk, out), api.OK)
		b.Made(d.what, d.makes(out))
		b.Disk().Delete(out)
	}
}

// TestLeftTapes: a loss of power may have left temporaries of any names; a new desk counts from 1 on again. DOC.md, Temporary.
func TestLeftTapes(t *testing.T) {
	r := bench.Dice(6)
	x := anyTrio(&r, 4)
	for _, ending := range []string{".i", ".o", ""} {
		tapes := x.tapes()
		for number := 6; number < 40; number++ {
			if number%3 > 0 {
				tapes = append(tapes, bench.Strip{Name: "tmp-" + strconv.Itoa(number) + ending, Kind: api.KindRaw})
			}
		}
		was := bench.Holds(t, 1, tapes...)
		for _, d := range x.deeds(&r) {
			run(bench.Mount(t, was, 64), d)
		}
	}
}
