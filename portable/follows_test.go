package portable_test

import (
	"strings"
	"testing"

	"strata/api"
	"strata/bench"
	"strata/build"
	"strata/formula"
	"strata/nodes"
	"strata/portable"
)

// TestThereAndBack: what is dumped at one desk is loaded at another, with blocks and a purse of another size: the same records, and the same text again. P16.5, W11, G9.
func TestThereAndBack(t *testing.T) {
	t.Parallel()
	r := bench.Dice(20)
	for range 60 {
		n := r.Below(9)
		list := bench.Canon(n, r.Table(n))
		here, there := 1+r.Below(9), 1+r.Below(9)
		a := bench.Mount(t, bench.Holds(t, here, bench.Files(list)...), here*(api.LeastK+r.Below(99)))
		b := bench.Mount(t, bench.Holds(t, there), there*(api.LeastK+r.Below(99)))
		text, e := portable.Dump(a.Desk, "f")
		a.Is("Dump", e, api.OK)
		if fault := portable.Load(b.Desk, text, "g"); fault != (api.Fault{}) {
			t.Fatalf("%q: %v", text, fault)
		}
		b.Made("Load", strip("g", list))
		b.Is("Check", nodes.Check(b.Desk, "g"), api.OK)
		if again, e := portable.Dump(b.Desk, "g"); again != text || e != api.OK {
			t.Fatalf("%q, %d, want %q", again, e, text)
		}
	}
}

// TestWhatIsLetIn: each text that is taken is the one of a well-formed file. P16.6.
func TestWhatIsLetIn(t *testing.T) {
	t.Parallel()
	r := bench.Dice(21)
	b := bench.Lie(t, 1)
	in := 0
	for i := range 6000 {
		text := looseLines(&r)
		if i%2 == 0 {
			n := 1 + r.Below(3)
			text = bend(&r, dumpOf(bench.Canon(n, r.Table(n))))
		}
		if portable.Load(b.Desk, text, "out") != (api.Fault{}) {
			b.AsBefore(text)
			continue
		}
		in++
		b.Is(text, nodes.Check(b.Desk, "out"), api.OK)
		if again, e := portable.Dump(b.Desk, "out"); again != text || e != api.OK {
			t.Fatalf("%q, %d, want %q", again, e, text)
		}
		b.Disk().Delete("out")
	}
	if in < 300 {
		t.Errorf("%d texts are let in", in)
	}
}

// truthOf is what a formula says at an assignment over n levels.
func truthOf(t *testing.T, f []api.Fnode, n, x int) bool {
	t.Helper()
	bits := make([]bool, n)
	for l := range bits {
		bits[l] = bench.Bit(n, x, l)
	}
	v, e := formula.Eval(f, bits)
	if e != api.OK {
		t.Fatalf("Eval: %d", e)
	}
	return v
}

// parsed is the formula of a text.
func parsed(t *testing.T, text string) []api.Fnode {
	t.Helper()
	f, fault := formula.Parse(text)
	if fault != (api.Fault{}) {
		t.Fatalf("%.1000q: %v", text, fault)
	}
	return f
}

// TestSopIsAFormula: it says what the diagram says, and at each assignment no more than one of its products is true; what is built of it is the diagram. P16.7, W11.
func TestSopIsAFormula(t *testing.T) {
	t.Parallel()
	r := bench.Dice(22)
	for range 40 {
		n := r.Below(7)
		table := r.Table(n)
		b := bench.Lie(t, 1+r.Below(3), bench.Files(bench.Canon(n, table))...)
		text, e := portable.Sop(b.Desk, "f")
		b.Is("Sop", e, api.OK)
		f := parsed(t, text)
		if len(f) != treeOf(text) {
			t.Fatalf("%q: %d nodes", text, len(f))
		}
		var products [][]api.Fnode
		for _, product := range strings.Split(text, " | ") {
			products = append(products, parsed(t, product))
		}
		for x, want := range table {
			trues := 0
			for _, p := range products {
				trues += bench.Side(truthOf(t, p, n, x))
			}
			if truthOf(t, f, n, x) != want || trues != bench.Side(want) {
				t.Fatalf("%q at %d: %d products are true, want %v", text, x, trues, want)
			}
		}
		b.Is("Formula", build.Formula(b.Desk, n, f, upTo(0, n), "g"), api.OK)
		bench.NewMaker(b).Same(text, "f", "g")
	}
}

// TestTheGreatestSop: a sum of as many nodes as may be is a formula, of many products and of one. P16.4, P16.7.
func TestTheGreatestSop(t *testing.T) {
	for _, list := range [][]api.Rec{fitting(11, api.MaxTree, treeOf), chain(most, upTo(0, api.MaxTree/2), func(i int) bool { return i > 0 })} {
		b := bench.Lie(t, 20, bench.Files(list)...)
		text, e := portable.Sop(b.Desk, "f")
		b.Is("Sop", e, api.OK)
		if f := parsed(t, text); len(f) != api.MaxTree {
			t.Errorf("%d nodes", len(f))
		}
	}
}
