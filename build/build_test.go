package build_test

import (
	"math"
	"slices"
	"strconv"
	"testing"

	"strata/api"
	"strata/bench"
	"strata/build"
	"strata/circuit"
	"strata/formula"
	"strata/tape"
)

// TestEachTable: each function over few levels, and some over more. P15.3.
func TestEachTable(t *testing.T) {
	t.Parallel()
	for n := range 4 {
		b := bench.Lie(t, 1+n%3)
		for bits := range 1 << (1 << n) {
			run(b, ofTable(n, bench.Number(n, bits)))
		}
	}
	d := newDice(1)
	for n := range 12 {
		b := bench.Lie(t, 1+n%4)
		for _, table := range [][]bool{d.Table(n), d.Thin(n), d.Table(n), d.Thin(n), make([]bool, 1<<n)} {
			run(b, ofTable(n, table))
		}
	}
}

// TestEachOperator of a formula, over all that its operands may be, with the levels in each order. P15.1.
func TestEachOperator(t *testing.T) {
	leaf := func(n int) []api.Fnode {
		if n < 2 {
			return []api.Fnode{{Op: api.FoConst, N: n}}
		}
		return []api.Fnode{{Op: api.FoVar, N: n - 2}}
	}
	b := bench.Lie(t, 1)
	bench.Orders(3, func(at []int) {
		for x := range 5 {
			for _, n := range []api.Fnode{{Op: api.FoNot}, {Op: api.FoExists, N: 0}, {Op: api.FoForall, N: 0}, {Op: api.FoExists, N: 2}, {Op: api.FoForall, N: 1}} {
				run(b, ofFormula(3, append(leaf(x), n), at))
			}
			for y := range 5 {
				for op := api.FoAnd; op <= api.FoIff; op++ {
					run(b, ofFormula(3, append(append(leaf(x), leaf(y)...), node(op)), at))
				}
				if at[0] > 0 {
					for z := range 5 {
						run(b, ofFormula(3, append(slices.Concat(leaf(x), leaf(y), leaf(z)), node(api.FoIte)), at))
					}
				}
			}
		}
	})
}

// TestFormulas of all forms, over few levels. P15.1.
func TestFormulas(t *testing.T) {
	t.Parallel()
	d := newDice(2)
	for i := range 700 {
		run(bench.Lie(t, 1+i%3), d.anyFormula(t, i%6, 1+d.Below(30)))
	}
}

// TestBoundAndFree: a quantifier speaks of its own variable, within it, wherever the level is. P15.1.
func TestBoundAndFree(t *testing.T) {
	b := bench.Lie(t, 2)
	for _, text := range []string{
		"(exists x0: x0) & x0", "x0 & exists x0: !x0", "forall x0: exists x0: x0", "exists x1: x0 ^ x1 & forall x0: x0 | x1",
		"(forall x1: x1 -> x0) <-> x1", "exists x2: forall x1: (x2 <-> x1) | exists x2: x2 & x0", "exists x2: x0", "forall x0, x1, x2: x0 | x1 | x2",
	} {
		bench.Orders(3, func(at []int) { run(b, ofFormula(3, parsed(t, text), at)) })
	}
}

// TestLongRows: many operands of one operator, to the left and to the right, and parts of other operators among them. P15.1.
func TestLongRows(t *testing.T) {
	t.Parallel()
	d := newDice(3)
	for op := api.FoAnd; op <= api.FoIff; op++ {
		for _, many := range []int{2, 3, 4, 7, 60} {
			for _, right := range []bool{false, true} {
				var f []api.Fnode
				for i := range many {
					f = append(f, d.formula(1+d.Below(4), 5)...)
					if i > 0 && !right {
						f = append(f, node(op))
					}
				}
				for i := 1; i < many && right; i++ {
					f = append(f, node(op))
				}
				if !formula.Formed(f) { // brackets to the right are needed but for the implication
					continue
				}
				run(bench.Lie(t, 1+d.Below(2)), ofFormula(5, f, d.Some(5, 5)))
			}
		}
	}
}

// TestDeepFormulas: nested as deeply as may be, quantifiers too (MaxNested is not asked for here). P15.1.
func TestDeepFormulas(t *testing.T) {
	t.Parallel()
	d := newDice(4)
	b := bench.Lie(t, 1)
	const n = 6
	for _, wrap := range []func(i int, f []api.Fnode) []api.Fnode{
		func(i int, f []api.Fnode) []api.Fnode { return append(f, node(api.FoNot)) },
		func(i int, f []api.Fnode) []api.Fnode {
			return append(append([]api.Fnode{{Op: api.FoVar, N: i % n}}, f...), node(api.FoXor))
		},
		func(i int, f []api.Fnode) []api.Fnode {
			return append(append(d.formula(3, n), f...), d.formula(1, n)[0], node(api.FoIte))
		},
		func(i int, f []api.Fnode) []api.Fnode {
			return append(append(f, d.formula(2, n)...), node(of(d, api.FoAnd, api.FoOr, api.FoXor, api.FoIff, api.FoImp)))
		},
	} {
		f := d.formula(5, n)
		for i := 0; ; i++ {
			next := wrap(i, f)
			if !formula.Formed(next) || i == 200 {
				break
			}
			f = next
		}
		run(b, ofFormula(n, f, d.Some(n, n)))
	}
	f := []api.Fnode{{Op: api.FoVar, N: 63}, {Op: api.FoVar, N: 0}, node(api.FoXor)}
	for i := range api.MaxDepth {
		f = append(f, api.Fnode{Op: of(d, api.FoExists, api.FoForall), N: i})
	}
	f[3].Op = api.FoExists // of x0: with it the xor is true at all
	at := d.Some(100, 64)
	b.Is("64 quantifiers", build.Formula(b.Desk, 100, f, at, "out"), api.OK)
	b.Made("64 quantifiers", nodeFile("out", []api.Rec{bench.End(100, T, 0)}))
}

// TestClauses of all forms: none, some without literals, with doubled literals, with opposites. P15.2.
func TestClauses(t *testing.T) {
	t.Parallel()
	d := newDice(5)
	for i := range 700 {
		run(bench.Lie(t, 1+i%3), d.anyCnf(t, i%7))
	}
	b := bench.Lie(t, 1)
	for vars := range 3 { // each set of up to two clauses of up to two literals
		var all [][]int
		all = append(all, nil)
		for x := -vars; x <= vars; x++ {
			for y := -vars; y <= vars; y++ {
				if x != 0 && y != 0 {
					all = append(all, []int{x, y})
				}
			}
			if x != 0 {
				all = append(all, []int{x})
			}
		}
		for _, first := range all {
			for _, second := range all {
				run(b, ofCnf(2, api.Cnf{Vars: vars, Ends: []int{len(first), len(first) + len(second)}, Lits: slices.Concat(first, second)}, []int{1, 0}))
			}
		}
	}
	for _, many := range []int{10, 20, 30, 40, 200} { // more clauses than those above
		run(b, ofCnf(8, d.cnf(8, many, 2, 6), d.Some(8, 8)))
	}
}

// TestEachGate: each operator and a multiplexer, over points and constants, the same line twice too. P15.4.
func TestEachGate(t *testing.T) {
	b := bench.Lie(t, 1)
	for op := range 16 {
		for x := range 4 {
			for y := range 4 {
				c := net(input("a"), latch("l", 4), gate("zero", 0, 0, 0), gate("one", 15, 1, 3-3), gate("g", op, x, y))
				run(b, ofLine(t, 2, c, 4, []int{1, 0}))
				c.Gates = append(c.Gates, gate("h", api.OpXor, 4, x))
				run(b, ofLine(t, 3, c, 5, []int{1, 2}))
			}
		}
	}
	for x := range 64 {
		c := net(input("a"), input("b"), gate("g", api.OpNand, 0, 1), latch("l", 2), mux("m", x%4, x/4%4, x/16))
		run(b, ofLine(t, 3, c, 4, []int{2, 0, 1}))
	}
}

// TestLines: each line of circuits of all forms. P15.4.
func TestLines(t *testing.T) {
	t.Parallel()
	d := newDice(6)
	for i := range 120 {
		c := d.circuit(1+d.Below(3), d.Below(3), d.Below(12))
		n := points(c) + d.Below(2)
		at := d.Some(n, points(c))
		b := bench.Lie(t, 1+i%2)
		for place := range c.Gates {
			run(b, ofLine(t, n, c, place, at).formed(t, circuit.Formed(c)))
		}
	}
}

// TestRelations of circuits of all forms. P15.5.
func TestRelations(t *testing.T) {
	t.Parallel()
	d := newDice(7)
	for i := range 500 {
		run(bench.Lie(t, 1+i%3), d.anyRelation(t, 2*(i%4)+d.Below(3)))
	}
}

// TestRelationsOfPoints: latches that take the value of an input, of themselves, of one another. P15.5.
func TestRelationsOfPoints(t *testing.T) {
	b := bench.Lie(t, 1)
	for x := range 4 * 4 * 4 {
		c := net(input("i"), latch("a", x%4), latch("b", x/4%4), latch("d", x/16))
		run(b, ofRelation(t, 7, c, []int{6, 1, 3}, []int{0, 2, 5}))
		run(b, ofRelation(t, 6, c, []int{0, 1, 2}, []int{3, 4, 5}))
	}
	for n := range 3 {
		run(b, ofRelation(t, n, net(), nil, nil))
		run(b, ofRelation(t, n, net(input("i"), gate("g", api.OpNor, 0, 0)), nil, nil))
	}
}

// TestInputsInAnyWay: those that one latch asks for, or several, the first and the last, or none; and what is asked for is not what is leant on. P15.5.
func TestInputsInAnyWay(t *testing.T) {
	t.Parallel()
	d := newDice(8)
	for range 150 {
		const latches = 3
		inputs := 1 + d.Below(4)
		c := net()
		for i := range inputs {
			c.Gates = append(c.Gates, input(nth(i)))
		}
		for range latches {
			at := len(c.Gates)
			c.Gates = append(c.Gates, gate(nth(at), d.Below(16), d.Below(inputs), d.Below(inputs)), gate(nth(at+1), of(d, 6, 8, 14), at, d.Below(len(c.Gates))), latch(nth(at+2), at+1))
		}
		levels := d.Some(6, 6)
		run(bench.Lie(t, 1), ofRelation(t, 6, c, levels[:latches], levels[latches:]).formed(t, circuit.Formed(c)))
	}
}

// TestUnlikeBlocksAndBudgets: the same records whatever the blocks are, and whatever is in the purse. G9.
func TestUnlikeBlocksAndBudgets(t *testing.T) {
	t.Parallel()
	for n := 1; n < 8; n++ {
		for _, c := range []struct{ k, more int }{{1, 0}, {1, 1}, {1, 700}, {2, 0}, {3, 50}, {7, 0}, {31, 1}, {2047, 0}} {
			if n > 3 && c.k > 100 { // all is in one block long since
				continue
			}
			d := newDice(uint64(n)) // the same for each
			b := bench.Mount(t, bench.Holds(t, c.k), api.LeastK*c.k+c.more)
			for _, x := range d.deeds(t, n) {
				run(b, x)
			}
		}
	}
}

// TestGreatPurse: a budget that no memory has. G1, G10.
func TestGreatPurse(t *testing.T) {
	t.Parallel()
	d := newDice(9)
	for _, k := range []int{1, 2, 2047} {
		b := bench.Mount(t, bench.Holds(t, k), math.MaxInt-5)
		for _, x := range d.deeds(t, 4) {
			run(b, x)
		}
	}
}

// most is the number of levels of the tests of the edge.
const most = api.MaxVars

// TestMostLevels: over as many levels as there may be, with variables at the first, the last and others, and as many variables. P15.1, P15.2, P15.4, P15.5.
func TestMostLevels(t *testing.T) {
	d := newDice(10)
	b := bench.Lie(t, 3)
	made := func(what string, e api.Errno, places []int, table []bool) {
		t.Helper()
		b.Is(what, e, api.OK)
		b.Made(what, nodeFile("out", bench.Spread(bench.Canon(len(places), table), most, places)))
		b.Disk().Delete("out")
	}
	f := d.formula(15, 3)
	at := []int{most - 1, 0, 4711}
	made("Formula", build.Formula(b.Desk, most, f, at, "out"), []int{0, 4711, most - 1}, ofFormula(3, f, []int{2, 0, 1}).means)
	c := d.cnf(3, 3, 1, 3)
	made("Cnf", build.Cnf(b.Desk, most, c, at, "out"), []int{0, 4711, most - 1}, ofCnf(3, c, []int{2, 0, 1}).means)
	all := d.Some(most, most)
	last := []api.Fnode{{Op: api.FoVar, N: most - 1}, {Op: api.FoVar, N: 0}, node(api.FoAnd)}
	places := []int{all[0], all[most-1]}
	slices.Sort(places)
	made("Formula with the last variable", build.Formula(b.Desk, most, last, all, "out"), places, bench.Number(2, 8))
	units := api.Cnf{Vars: most, Ends: []int{1, 2}, Lits: []int{most, 1}}
	made("Cnf with the last variable", build.Cnf(b.Desk, most, units, all, "out"), places, bench.Number(2, 8))
	x := two(t)
	made("Line", build.Line(b.Desk, most, x, 5, at, "out"), []int{0, 4711, most - 1}, ofLine(t, 3, x, 5, []int{2, 0, 1}).means)
	now, next := []int{most - 2, 0}, []int{4711, 1}
	x.Gates[0] = gate("go", api.OpTrue, 1, 1) // an input more would be one level too many
	made("Relation", build.Relation(b.Desk, most, x, now, next, "out"), []int{0, 1, 4711, most - 2}, ofRelation(t, 4, x, []int{3, 0}, []int{2, 1}).means)
	x = two(t)
	b.Is("Relation with an input", build.Relation(b.Desk, most, x, now, next, "out"), api.ErrMany)
	b.AsBefore("Relation with an input")
	const fewer = most - 1
	b.Is("Relation over a level less", build.Relation(b.Desk, fewer, x, now, next, "out"), api.OK)
	list := bench.Spread(bench.Canon(4, ofRelation(t, 4, x, []int{3, 0}, []int{2, 1}).means), fewer, []int{0, 1, 4711, most - 2})
	b.Made("Relation over a level less", nodeFile("out", list))
}

// TestNoLevels: over none there are two functions. P15.1 to P15.5.
func TestNoLevels(t *testing.T) {
	b := bench.Lie(t, 1)
	for v := range 2 {
		run(b, ofFormula(0, []api.Fnode{{Op: api.FoConst, N: v}}, nil))
		run(b, ofTable(0, []bool{v == 1}))
		run(b, ofCnf(0, api.Cnf{Ends: make([]int, v)}, nil))
	}
	run(b, ofRelation(t, 0, net(), nil, nil))
	b.Is("Line", build.Line(b.Desk, 0, net(), 0, nil, "out"), api.ErrArg)
	b.AsBefore("Line")
}

// TestListsStay: what is handed in is neither changed nor written over behind its end. G3, G4.
func TestListsStay(t *testing.T) {
	const n = 6
	d := newDice(11)
	b := bench.Lie(t, 2)
	for range 20 {
		f, c, x, table := d.formula(25, n), d.cnf(n, 6, 1, 4), d.circuit(2, 2, 8), d.Table(n)
		at := append(d.Some(n, n), 77, 78)
		f = append(f, api.Fnode{Op: -7, N: -7})
		c.Ends, c.Lits = append(c.Ends, -7), append(c.Lits, -7)
		x.Gates = append(x.Gates, api.Gate{Name: "spare"})
		table = append(table, true, false)
		wasF, wasEnds, wasLits, wasGates, wasTable, wasAt := slices.Clone(f), slices.Clone(c.Ends), slices.Clone(c.Lits), slices.Clone(x.Gates), slices.Clone(table), slices.Clone(at)
		c.Ends, c.Lits, x.Gates = c.Ends[:6], c.Lits[:len(c.Lits)-1], x.Gates[:12]
		for _, y := range []deed{ofFormula(n, f[:25], at[:n]), ofCnf(n, c, at[:n]), ofTable(n, table[:1<<n]), ofLine(t, n, x, d.Below(12), at[:4]), ofRelation(t, n, x, at[:2], at[2:4])} {
			run(b, y)
		}
		if !slices.Equal(f, wasF) || !slices.Equal(c.Ends[:7], wasEnds) || !slices.Equal(c.Lits[:len(wasLits)], wasLits) || !slices.Equal(x.Gates[:13], wasGates) || !slices.Equal(table, wasTable) || !slices.Equal(at, wasAt) {
			t.Fatal("a list is not as it was")
		}
	}
	run(b, ofCnf(n, api.Cnf{Ends: []int{}, Lits: []int{}}, []int{}))
	run(b, ofRelation(t, n, api.Circuit{Name: "c", Gates: []api.Gate{}, Outs: []int{}}, []int{}, []int{}))
}

// TestOutIsATemporary: out may be a name that the desk has given. DOC.md, Temporary.
func TestOutIsATemporary(t *testing.T) {
	d := newDice(12)
	b := bench.Lie(t, 1)
	for _, x := range slices.Concat(d.deeds(t, 4), d.deeds(t, 5)) {
		out := b.Temp()
		b.Is(x.what, x.do(b.Desk, out), api.OK)
		b.Made(x.what, x.makes(out))
		b.Disk().Delete(out)
	}
}

// TestLeftTapes: a loss of power may have left temporaries of any names; a new desk counts from 1 on again. DOC.md, Temporary.
func TestLeftTapes(t *testing.T) {
	d := newDice(13)
	for _, ending := range []string{".i", ".o", "", "-0"} {
		var tapes []bench.Strip
		for number := 6; number < 60; number++ {
			if number%3 > 0 && (ending != "-0" || number%3 == 1) {
				tapes = append(tapes, bench.Strip{Name: "tmp-" + strconv.Itoa(number) + ending, Kind: api.KindRaw})
			}
		}
		was := bench.Holds(t, 1, tapes...)
		for _, x := range d.deeds(t, 4) {
			run(bench.Mount(t, was, 64), x)
		}
	}
}

// TestAgain: the same call makes the same numbered calls, whoever has called ahead of it. G2.
func TestAgain(t *testing.T) {
	d := newDice(14)
	for _, x := range d.deeds(t, 5) {
		was := bench.Holds(t, 2)
		var first api.Counts
		for i := range 3 {
			b := bench.Mount(t, was, 128)
			run(b, x)
			if got := b.Disk().Counts(); i == 0 {
				first = got
			} else if got != first {
				t.Errorf("%s: %+v, then %+v", x.what, first, got)
			}
		}
	}
}

// TestTwoDesks: calls at several desks on one disk know nothing of one another.
func TestTwoDesks(t *testing.T) {
	d := newDice(15)
	b := bench.Mount(t, bench.Holds(t, 1), 200)
	one, _ := b.Purse().Part(64)
	k, _ := tape.NewDesk(b.Disk(), one)
	for _, x := range d.deeds(t, 4) {
		b.Is(x.what, x.do(k, "p"), api.OK)
		b.Is(x.what, x.do(b.Desk, "q"), api.OK)
		for _, name := range []string{"p", "q"} {
			if !slices.Equal(b.Records(name, api.KindNodes), x.makes(name).List) {
				t.Errorf("%s: %s is another file", x.what, name)
			}
			b.Disk().Delete(name)
		}
	}
	one.Close()
	b.AsBefore("two desks")
}
