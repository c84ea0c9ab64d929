package reduce_test

import (
	"slices"
	"testing"

	"strata/api"
	"strata/bench"
	"strata/nodes"
	"strata/reduce"
	"strata/sweep"
	"strata/tape"
)

// reduces lays a diagram on a disk of its own, reduces it, and holds all that is promised of sound arcs against it. P9.1, P9.2, P9.5.
func reduces(t *testing.T, k, free int, g graph, want []api.Rec) {
	t.Helper()
	b := mount(t, bench.Holds(t, k, arcs(g.tapes())...), free)
	b.run(g, want)
	for l := range g.n {
		if bench.Width(want, l) > g.width(l) {
			t.Fatalf("P9.5: %v: level %d of %v has more nodes", g, l, want)
		}
	}
	b.Is(g, nodes.Check(b.Desk, "out"), api.OK)
}

// TestAllSmallFunctions: every function over no level, one, two and three, in many forms. P9.1, P9.3, P9.4.
func TestAllSmallFunctions(t *testing.T) {
	r := dice{1}
	for n := range 4 {
		for f := range 1 << (1 << n) {
			want := bench.Canon(n, bench.Number(n, f))
			least, most := graphOf(want), tree(n, bench.Number(n, f))
			for _, g := range []graph{least, r.shuffled(least), r.puffed(least, 3), r.puffed(least, 30), most, r.shuffled(most), r.puffed(most, 4)} {
				k := 1 + r.Below(3)
				reduces(t, k, 64*k+r.Below(2)*r.Below(99), g, want)
			}
		}
	}
}

// TestBlocksAndBudgets: diagrams of any form over unlike blocks and budgets, the least among them. P9.1, G9.
func TestBlocksAndBudgets(t *testing.T) {
	r := dice{2}
	for n := 1; n < 9; n++ {
		for range 12 {
			g := r.wild(n, 1+r.Below(12))
			want := g.canon()
			for _, c := range []struct{ k, more int }{{1, 0}, {1, 1 + r.Below(200)}, {2, 0}, {3, r.Below(9)}, {31, 0}, {300, 7}} {
				reduces(t, c.k, api.LeastK*c.k+c.more, g, want)
			}
		}
	}
}

// TestManyForms: one function, in forms that are made of one another: the same records. P9.3.
func TestManyForms(t *testing.T) {
	r := dice{3}
	for n := 2; n < 8; n++ {
		for round := range 8 {
			table := r.Table(n)
			if round%2 == 1 {
				table = r.Thin(n)
			}
			want := bench.Canon(n, table)
			g := graphOf(want)
			for range 10 {
				g = r.puffed(g, 1+r.Below(8))
				if !slices.Equal(bench.Means(g.tapes()), table) {
					t.Fatal("the model contradicts itself")
				}
				k := 1 + r.Below(4)
				reduces(t, k, 64*k, g, want)
			}
		}
	}
}

// TestCanonicalStays: the nodes of a well-formed node file, laid as arcs, are reduced to that very file. P9.4.
func TestCanonicalStays(t *testing.T) {
	r := dice{4}
	for n := range 9 {
		for round := range 10 {
			table := r.Table(n)
			if round%2 == 1 {
				table = r.Thin(n)
			}
			list := bench.Canon(n, table)
			k := 1 + r.Below(5)
			b := mount(t, bench.Holds(t, k, strip("f", api.KindNodes, list)), 64*k)
			all, info, e := nodes.All(b.Desk, "f")
			b.Is("All", e, api.OK)
			var laid []api.Arc
			for _, node := range all {
				laid = append(laid, api.Arc{From: node.Self, Side: 0, To: node.Low}, api.Arc{From: node.Self, Side: 1, To: node.High})
			}
			b.Is("Lay", sweep.Lay(b.Desk, laid, info, "a"), api.OK)
			b.Was = b.Disk().State()
			b.run(list, list)
			same, e := nodes.Equal(b.Desk, "f", "out")
			if !same || e != api.OK {
				t.Fatalf("Equal: %v, %d", same, e)
			}
		}
	}
}

// TestEdges: what the document names. P9.1.
func TestEdges(t *testing.T) {
	p := func(level, id int) uint64 { return uint64(bench.At(level, id)) }
	no, yes := uint64(F), uint64(T)
	type row = [3]uint64
	for what, c := range map[string]struct {
		n    int
		root uint64
		from []row
		want []row
	}{
		"no levels, F":                  {0, no, nil, nil},
		"no levels, T":                  {0, yes, nil, nil},
		"a root that is a leaf":         {7, no, nil, nil},
		"all levels and a leaf":         {api.MaxVars, yes, nil, nil},
		"one node":                      {1, 0, []row{{0, yes, no}}, []row{{0, yes, no}}},
		"one node at the last level":    {api.MaxVars, p(api.MaxVars-1, 0), []row{{p(api.MaxVars-1, 0), no, yes}}, []row{{p(api.MaxVars-1, 0), no, yes}}},
		"one node at the first level":   {api.MaxVars, 0, []row{{0, no, yes}}, []row{{0, no, yes}}},
		"one node with equal arcs, F":   {1, 0, []row{{0, no, no}}, nil},
		"one node with equal arcs, T":   {api.MaxVars, p(9, 0), []row{{p(9, 0), yes, yes}}, nil},
		"equal arcs at the root":        {3, 0, []row{{0, p(2, 0), p(2, 0)}, {p(2, 0), no, yes}}, []row{{p(2, 0), no, yes}}},
		"equal arcs below the root":     {3, 0, []row{{0, p(1, 0), no}, {p(1, 0), p(2, 0), p(2, 0)}, {p(2, 0), no, yes}}, []row{{p(2, 0), no, yes}, {0, p(2, 0), no}}},
		"equal arcs at the last level":  {2, 0, []row{{0, p(1, 0), no}, {p(1, 0), yes, yes}}, []row{{0, yes, no}}},
		"equal arcs all the way":        {4, 0, []row{{0, p(1, 0), p(1, 0)}, {p(1, 0), p(2, 0), p(2, 0)}, {p(2, 0), p(3, 0), p(3, 0)}, {p(3, 0), yes, yes}}, nil},
		"a level that collapses whole":  {3, 0, []row{{0, p(1, 0), p(1, 1)}, {p(1, 0), p(2, 0), p(2, 1)}, {p(1, 1), p(2, 1), p(2, 1)}, {p(2, 0), no, yes}, {p(2, 1), no, yes}}, []row{{p(2, 0), no, yes}}},
		"a level that becomes a leaf":   {3, 0, []row{{0, p(1, 0), p(1, 1)}, {p(1, 0), p(2, 0), no}, {p(1, 1), p(2, 1), yes}, {p(2, 0), no, no}, {p(2, 1), yes, yes}}, []row{{0, no, yes}}},
		"levels without a node":         {900, p(3, 0), []row{{p(3, 0), p(70, 0), yes}, {p(70, 0), no, p(898, 0)}, {p(898, 0), yes, no}}, []row{{p(898, 0), yes, no}, {p(70, 0), no, p(898, 0)}, {p(3, 0), p(70, 0), yes}}},
		"alike once their children are": {4, 0, []row{{0, p(1, 0), p(1, 1)}, {p(1, 0), p(2, 1), yes}, {p(1, 1), p(2, 0), yes}, {p(2, 0), p(3, 0), no}, {p(2, 1), p(3, 1), no}, {p(3, 0), no, yes}, {p(3, 1), no, yes}}, []row{{p(3, 0), no, yes}, {p(2, 0), p(3, 0), no}, {p(1, 0), p(2, 0), yes}}},
		"alike through equal arcs":      {4, 0, []row{{0, p(1, 0), p(1, 1)}, {p(1, 0), p(2, 0), yes}, {p(1, 1), p(3, 0), yes}, {p(2, 0), p(3, 0), p(3, 0)}, {p(3, 0), no, yes}}, []row{{p(3, 0), no, yes}, {p(1, 0), p(3, 0), yes}}},
		"other ids than they had":       {3, 0, []row{{0, p(1, 0), p(1, 1)}, {p(1, 0), yes, p(2, 0)}, {p(1, 1), p(2, 0), no}, {p(2, 0), no, yes}}, []row{{p(2, 0), no, yes}, {p(1, 0), p(2, 0), no}, {p(1, 1), yes, p(2, 0)}, {0, p(1, 1), p(1, 0)}}},
		"low ahead of high":             {2, 0, []row{{0, p(1, 0), p(1, 1)}, {p(1, 0), yes, no}, {p(1, 1), no, yes}}, []row{{p(1, 0), no, yes}, {p(1, 1), yes, no}, {0, p(1, 1), p(1, 0)}}},
		"arcs over many levels":         {api.MaxVars, 0, []row{{0, p(api.MaxVars-1, 0), p(1, 0)}, {p(1, 0), p(api.MaxVars-1, 1), p(2, 0)}, {p(2, 0), yes, p(api.MaxVars-1, 1)}, {p(api.MaxVars-1, 0), yes, no}, {p(api.MaxVars-1, 1), no, yes}}, []row{{p(api.MaxVars-1, 0), no, yes}, {p(api.MaxVars-1, 1), yes, no}, {p(2, 0), yes, p(api.MaxVars-1, 0)}, {p(1, 0), p(api.MaxVars-1, 0), p(2, 0)}, {0, p(api.MaxVars-1, 1), p(1, 0)}}},
	} {
		g := graph{c.n, c.root, map[uint64][2]uint64{}}
		for _, x := range c.from {
			g.kids[x[0]] = [2]uint64{x[1], x[2]}
		}
		root := c.root
		var want []api.Rec
		for _, x := range c.want {
			want = append(want, api.Rec{x[0], x[1], x[2]})
			root = x[0]
		}
		if len(c.want) == 0 && len(c.from) > 0 {
			root = c.from[len(c.from)-1][1]
		}
		want = append(want, bench.End(c.n, api.Ptr(root), len(want)))
		for _, k := range []int{1, 2, 3, 40} {
			b := lie(t, k, g)
			b.run(what, want)
			b.Is(what, nodes.Check(b.Desk, "out"), api.OK)
			if c.n < 8 && !slices.Equal(g.canon(), want) {
				t.Fatalf("%s: the model contradicts itself", what)
			}
		}
	}
}

// TestGreatOnes: levels that have many times what the least purse holds. P9.1, G9.
func TestGreatOnes(t *testing.T) {
	r := dice{5}
	const n = 12
	full, thin := r.Table(n), r.Thin(n)
	for _, c := range []struct {
		g    graph
		want []api.Rec
	}{
		{tree(n, full), bench.Canon(n, full)},
		{r.shuffled(tree(n, thin)), bench.Canon(n, thin)},
		{r.puffed(graphOf(bench.Canon(n, full)), 300), bench.Canon(n, full)},
	} {
		for _, x := range []struct{ k, free int }{{1, 64}, {1, 500}, {2, 128}, {15, 64 * 15}, {40, 1 << 30}} {
			b := mount(t, bench.Holds(t, x.k, arcs(c.g.tapes())...), x.free)
			b.run(x, c.want)
		}
	}
}

// TestAllLevels: a diagram with two nodes at each of as many levels as there may be, alike only once all below them are. MaxVars; P9.1.
func TestAllLevels(t *testing.T) {
	const n = api.MaxVars
	g := graph{n, 0, map[uint64][2]uint64{0: {uint64(bench.At(1, 0)), uint64(bench.At(1, 1))}}}
	var want []api.Rec
	for l := n - 1; l > 0; l-- {
		to, next := [2]uint64{uint64(T), uint64(T)}, uint64(T)
		if l < n-1 {
			to, next = [2]uint64{uint64(bench.At(l+1, l%2)), uint64(bench.At(l+1, 1-l%2))}, uint64(bench.At(l+1, 0))
		}
		for i := range 2 {
			k := [2]uint64{to[i], uint64(F)}
			if l%3 == 0 {
				k[0], k[1] = k[1], k[0]
			}
			g.kids[uint64(bench.At(l, i))] = k
		}
		node := api.Rec{uint64(bench.At(l, 0)), next, uint64(F)}
		if l%3 == 0 {
			node[1], node[2] = node[2], node[1]
		}
		want = append(want, node)
	}
	want = append(want, bench.End(n, bench.At(1, 0), n-1))
	b := lie(t, 7, g)
	b.run("all levels", want)
}

// TestOfSweeps: what the five of layer 8 make of node files is reduced to the file of the function that DOC.md says. P8.11, P9.1.
func TestOfSweeps(t *testing.T) {
	r := dice{6}
	flip := func(n, x, l int) int { return x ^ 1<<(n-1-l) }
	for n := 2; n < 7; n++ {
		for range 6 {
			f, g, h := r.Table(n), r.Thin(n), r.Table(n)
			k := 1 + r.Below(3)
			was := bench.Holds(t, k, strip("f", api.KindNodes, bench.Canon(n, f)), strip("g", api.KindNodes, bench.Canon(n, g)), strip("h", api.KindNodes, bench.Canon(n, h)))
			op, l, v := r.Below(16), r.Below(n-1), r.Below(2) == 1
			for what, c := range map[string]struct {
				do    func(k *tape.Desk) api.Errno
				means func(x int) bool
			}{
				"Apply":   {func(k *tape.Desk) api.Errno { return sweep.Two(k, op, "f", "g", "a") }, func(x int) bool { return op>>(2*bench.Side(f[x])+bench.Side(g[x]))&1 == 1 }},
				"Ite":     {func(k *tape.Desk) api.Errno { return sweep.Three(k, "f", "g", "h", "a") }, func(x int) bool { return f[x] && g[x] || !f[x] && h[x] }},
				"the one": {func(k *tape.Desk) api.Errno { return sweep.Fix(k, "f", nil, "a") }, func(x int) bool { return f[x] }},
				"Restrict": {func(k *tape.Desk) api.Errno { return sweep.Fix(k, "f", []api.Lit{{Level: l, Value: v}}, "a") }, func(x int) bool {
					if bench.Bit(n, x, l) != v {
						x = flip(n, x, l)
					}
					return f[x]
				}},
				"Exists": {func(k *tape.Desk) api.Errno { return sweep.Quant(k, "f", l, true, "a") }, func(x int) bool { return f[x] || f[flip(n, x, l)] }},
				"Forall": {func(k *tape.Desk) api.Errno { return sweep.Quant(k, "f", l, false, "a") }, func(x int) bool { return f[x] && f[flip(n, x, l)] }},
				"Swap": {func(k *tape.Desk) api.Errno { return sweep.Swap(k, "f", l, "a") }, func(x int) bool {
					if bench.Bit(n, x, l) != bench.Bit(n, x, l+1) {
						x = flip(n, flip(n, x, l), l+1)
					}
					return f[x]
				}},
			} {
				b := mount(t, was, 64*k)
				b.Is(what, c.do(b.Desk), api.OK)
				b.Was = b.Disk().State()
				b.run(what, bench.Canon(n, bench.TableOf(n, c.means)))
			}
		}
	}
}

// TestNames: the names that may be, of the arcs and of the file; and what the desk itself has told as the name of a temporary. P8.1, P9.1.
func TestNames(t *testing.T) {
	r := dice{7}
	g := r.puffed(graphOf(bench.Canon(5, r.Table(5))), 20)
	want := g.canon()
	for _, name := range []string{"", "a", "a.i", "-", "tmp-7", "012345678901234567890123456789"} {
		b := mount(t, bench.Holds(t, 1), 64)
		b.Is(name, sweep.Lay(b.Desk, g.arcs(), g.info(), name), api.OK)
		b.Was = b.Disk().State()
		for _, out := range []string{"out", "out.i", "x", "01234567890123456789012345678901", b.Temp(), b.Temp()} {
			b.Is(out, reduce.Reduce(b.Desk, name, out), api.OK)
			b.made(out, out, want)
			b.Disk().Delete(out)
			b.AsBefore(out)
		}
	}
}

// TestSameAgain: the same call on the same disk and purse makes the same numbered calls. G2, G7.
func TestSameAgain(t *testing.T) {
	r := dice{8}
	g := tree(7, r.Table(7))
	was := bench.Holds(t, 1, arcs(g.tapes())...)
	var last api.Counts
	for i := range 4 {
		b := mount(t, was, 64)
		b.run("again", g.canon())
		if n := b.Disk().Counts(); i > 0 && n != last {
			t.Errorf("%+v, then %+v", last, n)
		}
		last = b.Disk().Counts()
	}
}
