package build_test

import (
	"math/bits"
	"slices"
	"testing"

	"strata/api"
	"strata/bench"
	"strata/build"
	"strata/circuit"
	"strata/formula"
	"strata/nodes"
	"strata/tape"
)

// TestNoMoreThanThePurse: what a call takes out is within what is free, and it needs no more than the least; behind it all is back. G10.
func TestNoMoreThanThePurse(t *testing.T) {
	t.Parallel()
	for _, k := range []int{1, 2, 9, 50} {
		d := newDice(50)
		was := bench.Holds(t, k)
		for _, x := range slices.Concat(d.deeds(t, 6), d.deeds(t, 7)) {
			b := bench.Mount(t, was, api.LeastK*k)
			run(b, x)
			if peak := b.Purse().Peak() - b.Hand; peak < k || peak > api.LeastK*k {
				t.Errorf("K %d: %s: peak %d", k, x.what, peak)
			}
		}
	}
}

// widest is how many nodes the widest level of a node file has.
func widest(n int, list []api.Rec) int {
	most := 0
	for l := range n {
		most = max(most, bench.Width(list, l))
	}
	return most
}

// apart is the formula of pairs of which one level stands far from the other: x0 and xn, or x1 and xn+1, ..
func apart(n int) []api.Fnode {
	var f []api.Fnode
	for i := range n {
		f = append(f, api.Fnode{Op: api.FoVar, N: i}, api.Fnode{Op: api.FoVar, N: n + i}, node(api.FoAnd))
		if i > 0 {
			f = append(f, node(api.FoOr))
		}
	}
	return f
}

// TestWhatWaitsIsOnTheDisk: levels have many times the nodes that the purse holds, so all but that must be on the disk meanwhile. G10.
func TestWhatWaitsIsOnTheDisk(t *testing.T) {
	t.Parallel()
	d := newDice(51)
	const n = 13
	wide := ofFormula(16, apart(8), upTo(16))
	for _, x := range []deed{ofTable(n, d.Table(n)), ofTable(16, wide.means), wide} {
		most := widest(x.n, x.makes("out").List)
		if most < 120 {
			t.Fatalf("%s: the widest level has %d nodes", x.what, most)
		}
		b := bench.Lie(t, 1)
		run(b, x)
		if used := b.Disk().Counts().Most - bench.BlocksIn(b.Was); used < most-64 {
			t.Errorf("%s: at most %d blocks are used, where %d nodes wait", x.what, used, most)
		}
	}
}

func upTo(n int) []int {
	var out []int
	for i := range n {
		out = append(out, i)
	}
	return out
}

// TestTablesOfFewNodes: a table needs room as its diagram does, not as it is long itself.
func TestTablesOfFewNodes(t *testing.T) {
	t.Parallel()
	for what, f := range map[string]func(x int) bool{
		"always":      func(x int) bool { return true },
		"parity":      func(x int) bool { return bits.OnesCount(uint(x))%2 == 1 },
		"one":         func(x int) bool { return x == 4711 },
		"majority":    func(x int) bool { return bits.OnesCount(uint(x)) > 10 },
		"the deepest": func(x int) bool { return x&1 == 1 },
		"two":         func(x int) bool { return x>>19&(x>>3) == 1 },
	} {
		x := ofTable(api.MaxTable, bench.TableOf(api.MaxTable, f))
		x.what = what
		b := bench.MountSmall(t, bench.Holds(t, 1), 64, 20+10*len(x.makes("out").List))
		run(b, x)
	}
}

// TestGreatTables: as many levels as there may be, and a table in which hardly anything is equal. P15.3.
func TestGreatTables(t *testing.T) {
	t.Parallel()
	d := newDice(52)
	for _, k := range []int{6, 100} {
		run(bench.Lie(t, k), ofTable(api.MaxTable, d.Table(api.MaxTable)))
	}
}

// rowOf is a formula of many variables with one operator between.
func rowOf(many, op int) []api.Fnode {
	var f []api.Fnode
	for i := range many {
		f = append(f, api.Fnode{Op: api.FoVar, N: i})
		if i > 0 && op != api.FoImp {
			f = append(f, node(op))
		}
	}
	for i := 1; i < many && op == api.FoImp; i++ {
		f = append(f, node(op))
	}
	return f
}

// TestTrafficOfRows: what many parts are joined to is not gone through again with each of them: twice as many parts are little more than twice the work.
func TestTrafficOfRows(t *testing.T) {
	t.Parallel()
	work := func(do func(k *tape.Desk, many int) api.Errno, many int) int {
		b := bench.Lie(t, 4)
		b.Is(many, do(b.Desk, many), api.OK)
		return b.Disk().Counts().Calls
	}
	formulaOf := func(op int) func(k *tape.Desk, many int) api.Errno {
		return func(k *tape.Desk, many int) api.Errno {
			return build.Formula(k, 2000, rowOf(many, op), upTo(2000), "out")
		}
	}
	for what, do := range map[string]func(k *tape.Desk, many int) api.Errno{
		"and": formulaOf(api.FoAnd), "or": formulaOf(api.FoOr), "xor": formulaOf(api.FoXor), "imp": formulaOf(api.FoImp), "iff": formulaOf(api.FoIff),
		"clauses": func(k *tape.Desk, many int) api.Errno {
			c := api.Cnf{Vars: 2000}
			for i := range many {
				v := i * 977 % many
				c.Lits = append(c.Lits, 1+v, -2-v)
				c.Ends = append(c.Ends, len(c.Lits))
			}
			return build.Cnf(k, 2000, c, upTo(2000), "out")
		},
		"gates": func(k *tape.Desk, many int) api.Errno {
			c := wideNet(many, api.OpXor)
			return build.Line(k, 2000, c, len(c.Gates)-1, upTo(many), "out")
		},
		"latches": func(k *tape.Desk, many int) api.Errno {
			c, now, next := shift(many)
			return build.Relation(k, 4000, c, now, next, "out")
		},
	} {
		few, many := work(do, 400), work(do, 1600)
		if many > 7*few { // that each is gone through again would be 16 times
			t.Errorf("%s: %d calls, of four times as many parts %d", what, few, many)
		}
	}
}

// TestTrafficOfClauses: in which order they and their literals stand, and how often, makes no difference.
func TestTrafficOfClauses(t *testing.T) {
	d := newDice(53)
	const n = 12
	work := func(c api.Cnf) api.Counts {
		b := bench.Lie(t, 2)
		b.Is(c, build.Cnf(b.Desk, n, c, upTo(n), "out"), api.OK)
		return b.Disk().Counts()
	}
	for range 10 {
		c := d.cnf(n, 25, 1, 3)
		if once, again := work(c), work(d.shuffled(c)); once != again {
			t.Errorf("%v: %+v, in another order %+v", c, once, again)
		}
	}
}

// wideNet is a circuit with so many inputs, and a chain of gates of one operator over them.
func wideNet(inputs, op int) api.Circuit {
	c := net()
	for i := range inputs {
		c.Gates = append(c.Gates, input(nth(i)))
	}
	last := 0
	for i := 1; i < inputs; i++ {
		c.Gates = append(c.Gates, gate(nth(len(c.Gates)), op, last, i))
		last = len(c.Gates) - 1
	}
	return c
}

// shift is a row of latches each of which takes the value of the one ahead, the first that of an input; with levels that alternate.
func shift(latches int) (c api.Circuit, now, next []int) {
	c = net(input("in"))
	for i := range latches {
		c.Gates = append(c.Gates, latch(nth(i+1), i))
		now, next = append(now, 2*i), append(next, 2*i+1)
	}
	return c, now, next
}

// TestFewFiles: parts that wait for deeper ones are not made ahead of them: however deep a circuit is, few files are there at a time.
func TestFewFiles(t *testing.T) {
	t.Parallel()
	const deep = 3000
	for what, next := range map[string]func(i int) api.Gate{
		"mux":       func(i int) api.Gate { return mux(nth(i), 0, 1, i-1) },
		"other mux": func(i int) api.Gate { return mux(nth(i), 1, i-1, 0) },
		"choice":    func(i int) api.Gate { return mux(nth(i), i-1, 0, 1) },
		"diff":      func(i int) api.Gate { return gate(nth(i), api.OpDiff, i%2, i-1) },
		"both":      func(i int) api.Gate { return gate(nth(i), []int{api.OpOr, api.OpAnd}[i%2], i%2, i-1) },
		"doubled":   func(i int) api.Gate { return gate(nth(i), api.OpNand, i-1, i-1) },
		"the last":  func(i int) api.Gate { return gate(nth(i), api.OpXor, i-1, i-2) },
	} {
		c := net(input("a"), input("b"))
		for i := 2; i < deep; i++ {
			c.Gates = append(c.Gates, next(i))
		}
		b := bench.Lie(t, 1)
		b.Is(what, build.Line(b.Desk, 2, c, deep-1, []int{1, 0}, "out"), api.OK)
		if most := b.Disk().Counts().Most - bench.BlocksIn(b.Was); most > 60 {
			t.Errorf("%s: %d blocks", what, most)
		}
	}
}

// TestSharedLines: what several lines lean on is made once: time goes as the circuit is large, not as its ways are many.
func TestSharedLines(t *testing.T) {
	t.Parallel()
	const deep = 300
	c := net(input("a"), input("b"))
	for i := 2; i < deep; i++ {
		c.Gates = append(c.Gates, []api.Gate{gate(nth(i), api.OpNand, i-1, i-2), mux(nth(i), i-2, i-1, i-1), gate(nth(i), api.OpA, i-1, i-2), gate(nth(i), api.OpAnd, i-1, i-1)}[i%4])
	}
	want := ofLine(t, 2, c, deep-1, []int{0, 1})
	b := bench.Lie(t, 1)
	run(b, want)
	if calls := b.Disk().Counts().Calls; calls > 100*deep {
		t.Errorf("%d calls for %d lines", calls, deep)
	}
}

// TestDecidedRows: where some parts decide all, the others are not made.
func TestDecidedRows(t *testing.T) {
	t.Parallel()
	const n = 14
	heavy, e := formula.Print(apart(n))
	if e != api.OK {
		t.Fatal(e)
	}
	for _, text := range []string{"(x0 & x1 | x2) & !(x0 & x1 | x2) & (" + heavy + " -> x3 & x4)", "x0 & !x0 | !(x0 & x0 & x1) | (x0 & x1 & x1) | x3 & (" + heavy + ")"} {
		b := bench.MountSmall(t, bench.Holds(t, 1), 64, 100)
		b.Is(text, build.Formula(b.Desk, 2*n, parsed(t, text), upTo(2*n), "out"), api.OK)
		if list := b.Records("out", api.KindNodes); len(list) != 1 {
			t.Errorf("%s: %d records", text, len(list))
		}
	}
	c := api.Cnf{Vars: 2 * n, Ends: []int{1, 2, 3}, Lits: []int{1, -1, 5}} // no more is made than these two
	for i := range n {
		c.Lits = append(c.Lits, 1+i, 1+n+i)
		c.Ends = append(c.Ends, len(c.Lits))
	}
	b := bench.MountSmall(t, bench.Holds(t, 1), 64, 60)
	b.Is("Cnf", build.Cnf(b.Desk, 2*n, c, upTo(2*n), "out"), api.OK)
	b.Made("Cnf", nodeFile("out", []api.Rec{bench.End(2*n, F, 0)}))
}

// loads is a circuit of latches that each take an input of their own where another one says so; all inputs stand ahead of the latches.
func loads(latches int) (c api.Circuit, now, next []int) {
	c = net(input("go"))
	for i := range latches {
		c.Gates = append(c.Gates, input(nth(i)))
	}
	for i := range latches {
		at := len(c.Gates)
		c.Gates = append(c.Gates, mux("m"+nth(i), 0, 1+i, at+1), latch("l"+nth(i), at))
		now, next = append(now, 2*i), append(next, 2*i+1)
	}
	return c, now, next
}

// adder is a circuit of latches to which inputs are added as numbers, the lowest digit first.
func adder(digits int) (c api.Circuit, now, next []int) {
	c = net(input("carry"))
	carry := 0
	for i := range digits {
		at := len(c.Gates)
		c.Gates = append(c.Gates,
			input("i"+nth(i)), latch("l"+nth(i), at+3),
			gate("x"+nth(i), api.OpXor, at, at+1), gate("s"+nth(i), api.OpXor, at+2, carry),
			mux("c"+nth(i), at+2, carry, at))
		carry = at + 4
		now, next = append(now, 2*i), append(next, 2*i+1)
	}
	return c, now, next
}

// selector is a circuit of latches that stay as they are, but for the first and the second: that one takes whether an odd number of them is true, this one whether one is true together with an input of its own.
func selector(latches int) (c api.Circuit, now, next []int) {
	c = net(latch("odd", 2), latch("any", 3), gate("x", api.OpFalse, 0, 0), gate("o", api.OpFalse, 0, 0))
	for i := range latches {
		at := len(c.Gates)
		c.Gates = append(c.Gates,
			input("i"+nth(i)), latch("l"+nth(i), at+1),
			gate("x"+nth(i), api.OpXor, c.Gates[0].A, at+1), gate("t"+nth(i), api.OpAnd, at+1, at), gate("o"+nth(i), api.OpOr, c.Gates[1].A, at+3))
		c.Gates[0].A, c.Gates[1].A = at+2, at+4
	}
	for i := range latches + 2 {
		now, next = append(now, 2*i), append(next, 2*i+1)
	}
	return c, now, next
}

// TestInputsStandByTheirLatches: what a step hangs on beside the latches does not make it large on the way, where the order of the levels is good for it.
func TestInputsStandByTheirLatches(t *testing.T) {
	t.Parallel()
	const many = 24
	b := bench.MountSmall(t, bench.Holds(t, 2), 128, 2000)
	c, now, next := loads(many)
	b.Is("loads", build.Relation(b.Desk, 2*many, c, now, next, "out"), api.OK)
	b.Made("loads", nodeFile("out", []api.Rec{bench.End(2*many, T, 0)})) // each latch may take any value
	b.Disk().Delete("out")
	c, now, next = adder(many)
	b.Is("adder", build.Relation(b.Desk, 2*many, c, now, next, "out"), api.OK)
	b.Made("adder", nodeFile("out", []api.Rec{bench.End(2*many, T, 0)}))
	b.Disk().Delete("out")
	c, now, next = selector(many)
	b.Is("selector", build.Relation(b.Desk, 2*many+4, c, now, next, "out"), api.OK)
	if got := len(b.Records("out", api.KindNodes)); got > 12*many {
		t.Errorf("selector: %d records", got)
	}
	b.Disk().Delete("out")
	c, now, next = shift(many)
	b.Is("shift", build.Relation(b.Desk, 2*many, c, now, next, "out"), api.OK)
	if got := len(b.Records("out", api.KindNodes)); got > 7*many {
		t.Errorf("shift: %d records", got)
	}
}

// TestMostOfEach: as many nodes, clauses, literals, lines and latches as there may be. P15.1, P15.2, P15.4, P15.5.
func TestMostOfEach(t *testing.T) {
	all := upTo(most)
	long := rowOf((api.MaxTree+1)/2, api.FoXor)
	long = append(long, node(api.FoNot)) // as many as there may be
	few := slices.Clone(long)            // the same over few variables
	for i := range few {
		few[i].N %= 3
	}
	units := api.Cnf{Vars: most, Ends: make([]int, api.MaxClause), Lits: make([]int, api.MaxClause)}
	for i := range units.Ends {
		units.Ends[i], units.Lits[i] = i+1, 1+i
	}
	clause := api.Cnf{Vars: most, Ends: []int{api.MaxLits}, Lits: slices.Repeat(units.Lits, api.MaxLits/most)}
	chain := net(input("a"), input("b"))
	for i := 2; i < api.MaxGates; i++ {
		chain.Gates = append(chain.Gates, mux(nth(i), i%2, i-1, i-2))
	}
	still, now, next := shift(most / 2)
	still.Gates[0] = gate("zero", 0, 0, 0)
	still.Gates[0].A, still.Gates[0].B = 1, 1
	if !formula.Formed(long) || len(long) != api.MaxTree || !formula.FormedCnf(units) || !formula.FormedCnf(clause) || !circuit.Formed(chain) || !circuit.Formed(still) {
		t.Fatal("not formed")
	}
	for what, c := range map[string]struct {
		do    func(k *tape.Desk) api.Errno
		nodes int
	}{
		"nodes":   {func(k *tape.Desk) api.Errno { return build.Formula(k, most, long, all, "out") }, 2*len(long)/2 - 1},
		"few":     {func(k *tape.Desk) api.Errno { return build.Formula(k, 3, few, all[:3], "out") }, -1},
		"clauses": {func(k *tape.Desk) api.Errno { return build.Cnf(k, most, units, all, "out") }, most},
		"no lits": {func(k *tape.Desk) api.Errno {
			return build.Cnf(k, 0, api.Cnf{Ends: make([]int, api.MaxClause)}, nil, "out")
		}, 0},
		"literals": {func(k *tape.Desk) api.Errno { return build.Cnf(k, most, clause, all, "out") }, most},
		"lines":    {func(k *tape.Desk) api.Errno { return build.Line(k, 2, chain, api.MaxGates-1, []int{0, 1}, "out") }, -1},
		"latches":  {func(k *tape.Desk) api.Errno { return build.Relation(k, most, still, now, next, "out") }, -1},
		"one latch": {func(k *tape.Desk) api.Errno {
			return build.Relation(k, most-1, two(t), []int{0, 1}, []int{2, most - 2}, "out")
		}, -1},
	} {
		t.Run(what, func(t *testing.T) {
			t.Parallel()
			b := bench.Lie(t, 4)
			b.Is(what, c.do(b.Desk), api.OK)
			b.Is(what, nodes.Check(b.Desk, "out"), api.OK)
			b.Stays(what)
			if got := len(b.Records("out", api.KindNodes)) - 1; c.nodes >= 0 && got != c.nodes {
				t.Errorf("%s: %d nodes, want %d", what, got, c.nodes)
			}
		})
	}
}
