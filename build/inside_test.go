package build

import (
	"slices"
	"testing"

	"strata/api"
	"strata/bench"
	"strata/passage"
)

// TestPiecesOfOnePrint: where pieces that are not equal have the same print they are still told apart, and the arcs are sound.
func TestPiecesOfOnePrint(t *testing.T) {
	r := bench.Dice(1)
	prints := map[string]func(truths []bool) uint64{
		"one":   func([]bool) uint64 { return 0 },
		"most":  func([]bool) uint64 { return 1<<printBits - 1 },
		"first": func(truths []bool) uint64 { return uint64(bench.Side(truths[0])) },
		"last":  func(truths []bool) uint64 { return fingerprint(truths[len(truths)-1:]) },
	}
	for what, print := range prints {
		for n := range 9 {
			for _, table := range [][]bool{r.Table(n), r.Thin(n), r.Table(n)} {
				b := bench.Lie(t, 1+n%2)
				e := passage.Through(b.Desk, func(arcs string) api.Errno {
					d := &drawing{desk: b.Desk, vars: n, table: table, print: print}
					return d.draw(arcs)
				}, "out")
				b.Is(what, e, api.OK)
				b.Made(what, bench.Strip{Name: "out", Kind: api.KindNodes, List: bench.Canon(n, table)})
			}
		}
	}
}

// TestPrints: over few levels pieces have the same print just if they are equal.
func TestPrints(t *testing.T) {
	for n := range 5 {
		met := map[uint64]int{}
		for bits := range 1 << (1 << n) {
			print := fingerprint(bench.Number(n, bits))
			if print >= 1<<printBits || met[print] > 0 {
				t.Fatalf("%d of %d levels: %x", bits, n, print)
			}
			met[print] = 1
		}
	}
}

// TestNodesOfATable: each is one of the diagram: none is made twice, none that hangs on nothing.
func TestNodesOfATable(t *testing.T) {
	r := bench.Dice(2)
	for n := range 10 {
		for _, table := range [][]bool{r.Table(n), r.Thin(n)} {
			b := bench.Lie(t, 1)
			b.Is(n, layTable(b.Desk, n, table, "a"), api.OK)
			inner, outer := b.Records("a.i", api.KindInner), b.Records("a.o", api.KindOuter)
			want := bench.Canon(n, table)
			if !bench.AreSound(inner, outer) || outer[len(outer)-1][3] != uint64(len(want)-1) || !slices.Equal(bench.Means(inner, outer), table) {
				t.Fatalf("%v: %v, %v", table, inner, outer)
			}
			b.Out("purse")
		}
	}
}

// made is a site with a pile of node files of so many nodes each, and what was put.
func made(t *testing.T, op int, sizes ...int) (*pile, bench.Bench) {
	t.Helper()
	const vars = 1000
	b := bench.Lie(t, 10)
	s, e := begin(b.Desk, vars, api.OK, "out")
	b.Is("begin", e, api.OK)
	p := &pile{site: s, op: op}
	level := 0
	for _, size := range sizes {
		var lits []api.Lit
		for range size {
			lits = append(lits, api.Lit{Level: level, Value: true})
			level++
		}
		b.Is(size, p.settle(), api.OK)
		b.Is(size, p.put(s.cube(lits...)), api.OK)
	}
	return p, b
}

// nodesOf are how many nodes the files of a pile have.
func nodesOf(p *pile) []int {
	var out []int
	for _, h := range p.heaps {
		out = append(out, h.end.Nodes)
	}
	return out
}

// TestPile: files of like size are joined when the next one comes; a small one waits on a large one.
func TestPile(t *testing.T) {
	for _, c := range []struct {
		sizes, left []int
	}{
		{nil, nil},
		{[]int{5}, []int{5}},
		{[]int{5, 5}, []int{5, 5}},
		{[]int{5, 5, 1}, []int{10, 1}},
		{[]int{100, 1, 1, 1, 1, 1}, []int{100, 3, 1, 1}},
		{[]int{1, 100, 1, 1}, []int{101, 1, 1}},
		{[]int{40, 20, 3, 10, 2, 1}, []int{60, 13, 2, 1}},
		{[]int{40, 19, 9, 4, 1}, []int{40, 19, 9, 4, 1}},
		{[]int{1, 1, 1, 1, 1, 1, 1, 1, 1}, []int{8, 1}},
	} {
		p, b := made(t, api.OpAnd, c.sizes...)
		if got := nodesOf(p); !slices.Equal(got, c.left) {
			t.Errorf("%v: %v, want %v", c.sizes, got, c.left)
		}
		more := len(b.Stays("pile"))
		if more != len(p.heaps) {
			t.Errorf("%v: %d files for %d", c.sizes, more, len(p.heaps))
		}
		b.Is("finish", p.finish("out"), api.OK)
		if files := b.Stays("finish"); len(files) != 1 || files[0].Name != "out" {
			t.Errorf("%v: %v", c.sizes, b.Disk().Names())
		}
		sum := 0
		for _, size := range c.sizes {
			sum += size
		}
		if got := len(b.Records("out", api.KindNodes)) - 1; got != sum {
			t.Errorf("%v: %d nodes", c.sizes, got)
		}
	}
}

// TestGather: what was put from a part on comes together, and no more.
func TestGather(t *testing.T) {
	sizes := []int{400, 190, 90, 40, 19, 9}
	for first := range sizes {
		p, b := made(t, api.OpAnd, sizes...)
		b.Is("gather", p.gather(first), api.OK)
		if len(p.heaps) != first+1 || p.top().first != first {
			t.Errorf("from %d on: %+v", first, p.heaps)
		}
		b.Is("redo", p.redo(func(f, to string) api.Errno {
			return passage.Relabel(b.Desk, f, 1000, func(level int) (int, bool) { return level, true }, to)
		}), api.OK)
		if p.top().first != first {
			t.Errorf("from %d on, and done again: %+v", first, p.heaps)
		}
		f, e := p.one()
		b.Is("one", e, api.OK)
		if len(b.Stays("one")) != 1 || len(b.Records(f, api.KindNodes)) != 749 {
			t.Errorf("from %d on: %v", first, b.Disk().Names())
		}
	}
}

// TestDecided: by a leaf beside which the operator does not look at the other side.
func TestDecided(t *testing.T) {
	for op := range 16 {
		for _, root := range []api.Ptr{api.False, api.True, 0} {
			p := &pile{op: op, heaps: []heap{{end: api.Info{Root: root}}}}
			side := bench.Side(root == api.True)
			want := root != 0 && op>>(2*side)&1 == op>>(2*side+1)&1
			if p.decided() != want {
				t.Errorf("operator %d, %x: %v", op, root, !want)
			}
		}
	}
	if (&pile{op: api.OpAnd}).decided() {
		t.Error("nothing has decided")
	}
}

// TestShared: a part that several ask for is made once, and is there until the last of them leaves it, also where it is that of a shared part itself.
func TestShared(t *testing.T) {
	b := bench.Lie(t, 1)
	s, _ := begin(b.Desk, 2, api.OK, "out")
	times := 0
	inner := s.share(single(func(to string) api.Errno {
		times++
		return s.desk.Disk().Create(to)
	}), 2)
	outer := s.share(inner, 3)
	var files []string
	for _, p := range []part{outer, inner, outer, outer} {
		f, e := s.hold(p)
		b.Is("hold", e, api.OK)
		files = append(files, f)
	}
	for i, f := range files {
		if f != files[0] || times != 1 || len(b.Stays("shared")) != 1 {
			t.Fatalf("%v, made %d times; %d have left it", files, times, i)
		}
		s.leave(f)
	}
	b.AsBefore("all have left it")
}

// TestAsks: a gate asks for the lines that its operator looks at.
func TestAsks(t *testing.T) {
	for op := range 16 {
		truth := func(a, b int) int { return op >> (2*a + b) & 1 }
		var want []int
		if truth(0, 0) != truth(1, 0) || truth(0, 1) != truth(1, 1) {
			want = append(want, 7)
		}
		if truth(0, 0) != truth(0, 1) || truth(1, 0) != truth(1, 1) {
			want = append(want, 8)
		}
		if got := asks(api.Gate{Kind: api.GaGate, Op: op, A: 7, B: 8}); !slices.Equal(got, want) {
			t.Errorf("operator %d: %v, want %v", op, got, want)
		}
	}
	if got := asks(api.Gate{Kind: api.GaMux, A: 7, B: 8, C: 9}); !slices.Equal(got, []int{7, 8, 9}) {
		t.Errorf("a multiplexer: %v", got)
	}
	if got := append(asks(api.Gate{Kind: api.GaLatch, A: 7}), asks(api.Gate{Kind: api.GaInput})...); len(got) > 0 {
		t.Errorf("points: %v", got)
	}
}
