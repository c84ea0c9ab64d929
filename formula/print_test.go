package formula_test

import (
	"slices"
	"testing"

	"strata/api"
	"strata/formula"
)

// allTrees are the formulas of so many nodes over one variable, all operators among them.
func allTrees(nodes int) [][]api.Fnode {
	if nodes == 1 {
		return [][]api.Fnode{list(v(0))}
	}
	var out [][]api.Fnode
	for _, f := range allTrees(nodes - 1) {
		for _, op := range list(not, exists(0), forall(0)) {
			out = append(out, slices.Concat(f, list(op)))
		}
	}
	for a := 1; a < nodes-1; a++ {
		for _, f := range allTrees(a) {
			for _, g := range allTrees(nodes - 1 - a) {
				for _, op := range list(and, or, xor, imp, iff) {
					out = append(out, slices.Concat(f, g, list(op)))
				}
			}
		}
	}
	for a := 1; a < nodes-2; a++ {
		for b := 1; a+b < nodes-1; b++ {
			for _, f := range allTrees(a) {
				for _, g := range allTrees(b) {
					for _, h := range allTrees(nodes - 1 - a - b) {
						out = append(out, slices.Concat(f, g, h, list(ite)))
					}
				}
			}
		}
	}
	return out
}

// asPrinted: Print answers the one text of a formula, which is read as that formula again, and no pair of brackets can go.
func asPrinted(t *testing.T, f []api.Fnode) {
	t.Helper()
	text, e := formula.Print(f)
	if want := modelPrint(f); text != want || e != api.OK {
		t.Errorf("P13.2: %v: %q %d, want %q", f, text, e, want)
	}
	if again, fault := formula.Parse(text); fault != (api.Fault{}) || !slices.Equal(again, f) {
		t.Errorf("P13.2: %q: %v %v, want %v", text, again, fault, f)
	}
	for _, pair := range pairs(text) {
		less := without(text, pair)
		if got, fault := formula.Parse(less); fault == (api.Fault{}) && slices.Equal(got, f) {
			t.Errorf("P13.9: %q is a text of %v too: %q", less, f, text)
		}
	}
}

// TestAllSmallTrees: the texts of all formulas of few nodes (P13.2, P13.9).
func TestAllSmallTrees(t *testing.T) {
	for nodes := 1; nodes <= 6; nodes++ {
		for _, f := range allTrees(nodes) {
			if asPrinted(t, f); t.Failed() {
				return
			}
		}
	}
}

// TestAnyTrees: the texts of formulas of some nodes, and deep ones (P13.2, P13.9).
func TestAnyTrees(t *testing.T) {
	d := newDice(6)
	for range 1200 {
		asPrinted(t, d.tree(1+d.Below(16)))
	}
	for range 6 {
		asPrinted(t, d.deep(40))
	}
}

// TestGreat: formulas of MaxTree nodes that lean to either side are printed and read back; no formed one has too long a text (P13.2).
func TestGreat(t *testing.T) {
	for _, op := range list(and, or, xor, iff) {
		left := list(v(65535))
		for len(left) < 65535 {
			left = append(left, v(65535), op)
		}
		backAgain(t, left)
	}
	right := append(slices.Repeat(list(v(65535)), 32768), slices.Repeat(list(imp), 32767)...)
	backAgain(t, right)
	tower := list(v(65535))
	for i := range 62 {
		tower = append(tower, of(newDice(uint64(i)), exists(65535), forall(65535)))
	}
	long := slices.Clone(tower)
	for len(long)+len(tower) < api.MaxTree {
		long = append(append(long, tower...), iff)
	}
	backAgain(t, long)
}

func backAgain(t *testing.T, f []api.Fnode) {
	t.Helper()
	text, e := formula.Print(f)
	if e != api.OK || len(text) > api.MaxText {
		t.Errorf("%d nodes: %d, %d bytes", len(f), e, len(text))
	}
	if again, fault := formula.Parse(text); fault != (api.Fault{}) || !slices.Equal(again, f) {
		t.Errorf("%d nodes, %.40s..: %d nodes, %v", len(f), text, len(again), fault)
	}
}

// TestOneText: a text's own form is printed, however it was written (P13.2, P13.7).
func TestOneText(t *testing.T) {
	for _, x := range [][2]string{
		{"((x0))", "x0"},
		{"∃x1:∃x2:(∀x3:x3)", "exists x1, x2: forall x3: x3"},
		{"(((x0 & x1) | x2) -> (x3 <-> x4))", "x0 & x1 | x2 -> (x3 <-> x4)"},
		{"x0 & (x1 | x2)", "x0 & (x1 | x2)"},
		{"(x0 ^ x1) | x2 & x3", "x0 ^ x1 | x2 & x3"},
		{"x0 <-> (x1 -> x2)", "x0 <-> x1 -> x2"},
		{"(x0 <-> x1) -> x2", "(x0 <-> x1) -> x2"},
		{"!(ite(x0, x1, x2))", "!ite(x0, x1, x2)"},
		{"!(forall x0: x0)", "!forall x0: x0"},
		{"ite((∃x0: x0), (∃x0: x0), (∃x0: x0)) & 1", "ite(exists x0: x0, exists x0: x0, exists x0: x0) & true"},
		{"x0 -> (x1 -> ∃x0: x0) -> x2", "x0 -> (x1 -> exists x0: x0) -> x2"},
		{"(x0 -> ∃x1: x1) <-> 0", "x0 -> (exists x1: x1) <-> false"},
		{"!!(∃x1: x1) & 1", "!!(exists x1: x1) & true"},
		{"x5 # & x6", "x5"},
	} {
		f, fault := formula.Parse(x[0])
		if got, e := formula.Print(f); fault != (api.Fault{}) || got != x[1] || e != api.OK {
			t.Errorf("%q: %v, %q %d, want %q", x[0], fault, got, e, x[1])
		}
	}
}

// notFormed: all calls refuse a list.
func notFormed(t *testing.T, f []api.Fnode) {
	t.Helper()
	text, ofPrint := formula.Print(f)
	vars, ofVars := formula.Vars(f)
	truth, ofEval := formula.Eval(f, []bool{true})
	if formula.Formed(f) || text != "" || ofPrint != api.ErrTree || vars != 0 || ofVars != api.ErrTree || truth || ofEval != api.ErrTree {
		t.Errorf("%.40v: %t, %q %d, %d %d, %t %d", f, formula.Formed(f), text, ofPrint, vars, ofVars, truth, ofEval)
	}
}

const (
	most  = 1<<63 - 1
	least = -1 << 63
)

// TestWrongNodes: Ops that are none, and an N that does not fit its Op (P13.3).
func TestWrongNodes(t *testing.T) {
	under := map[int][]api.Fnode{0: nil, 1: list(v(0)), 2: list(v(0), v(1)), 3: list(v(0), v(1), v(2))}
	for _, op := range []int{least, -11, -1, 0, 12, 13, 255, 256 + api.FoVar, 1<<32 + api.FoVar, most} {
		for many := range 4 {
			notFormed(t, append(slices.Clone(under[many]), api.Fnode{Op: op}))
		}
	}
	for op := 1; op <= 11; op++ {
		for _, n := range []int{least, -65536, -1, 0, 1, 2, 65535, 65536, 65537, 1 << 32, most} {
			f := append(slices.Clone(under[operands(op)]), api.Fnode{Op: op, N: n})
			right := n == 0
			switch op {
			case api.FoConst:
				right = n == 0 || n == 1
			case api.FoVar, api.FoExists, api.FoForall:
				right = 0 <= n && n <= 65535
			}
			if right != formula.Formed(f) {
				t.Errorf("%v: %t", f, !right)
			}
			if !right {
				notFormed(t, f)
				notFormed(t, append(append(slices.Clone(f), v(0)), and))
			}
		}
	}
}

// TestNoTree: lists of right nodes that are no tree (P13.3).
func TestNoTree(t *testing.T) {
	for _, f := range [][]api.Fnode{nil, {}, {not}, {and}, {ite}, {exists(0)}, {v(0), v(0)}, {v(0), and}, {v(0), v(0), ite}, {v(0), v(0), v(0), and}, {not, v(0)}, {v(0), not, v(0)}, {v(0), and, v(0)}, {v(0), v(0), and, and}} {
		notFormed(t, f)
	}
	d := newDice(7)
	for range 5000 {
		var f []api.Fnode
		height := 0
		tree := true
		for range d.Below(8) {
			n := of(d, v(0), v(0), v(0), c(1), not, exists(1), and, imp, ite)
			f = append(f, n)
			tree = tree && height >= operands(n.Op)
			height += 1 - operands(n.Op)
		}
		if want := tree && height == 1; formula.Formed(f) != want {
			t.Fatalf("%v: %t", f, !want)
		} else if !want {
			notFormed(t, f)
		}
	}
}

// TestNest: of each small formula the nest is how many are open in its text: so many quantifiers around it are formed (P13.3).
func TestNest(t *testing.T) {
	d := newDice(8)
	for nodes := 1; nodes <= 5; nodes++ {
		for _, f := range allTrees(nodes) {
			nestIs(t, f, modelOpen(modelPrint(f)))
		}
	}
	for range 500 {
		f := d.tree(1 + d.Below(16))
		nestIs(t, f, modelOpen(modelPrint(f)))
	}
	for range 4 {
		f := d.deep(60)
		nestIs(t, f, modelOpen(modelPrint(f)))
	}
}

func nestIs(t *testing.T, f []api.Fnode, want int) {
	t.Helper()
	full := slices.Concat(f, slices.Repeat(list(forall(1)), max(0, 64-want)))
	if want <= 64 && !formula.Formed(full) {
		t.Fatalf("%v is not formed, its nest is %d", full, want)
	}
	notFormed(t, append(full, exists(2)))
}

// TestLimits: the greatest numbers of nodes, and the greatest nests (P13.3).
func TestLimits(t *testing.T) {
	chain := func(nodes int) []api.Fnode {
		f := list(v(0))
		for len(f) < nodes {
			f = append(f, v(1), or)
		}
		return f
	}
	if !formula.Formed(chain(65535)) {
		t.Error("65535 nodes")
	}
	even := append(chain(65533), v(0), not, and)
	if !formula.Formed(even) || len(even) != 65536 {
		t.Error("65536 nodes")
	}
	notFormed(t, chain(65537))
	notFormed(t, append(even, not))
	notFormed(t, slices.Repeat(list(v(0), not), 100000))
	notFormed(t, append(list(v(0)), slices.Repeat(list(not), 65535)...))
	notFormed(t, append(list(v(0)), slices.Repeat(list(not), 1000000)...))
	for _, op := range list(and, or, xor, iff) {
		notFormed(t, append(slices.Repeat(list(v(0)), 32768), slices.Repeat(list(op), 32767)...))
	}
	right := append(slices.Repeat(list(v(0)), 66), slices.Repeat(list(and), 65)...)
	if !formula.Formed(right) {
		t.Error("64 brackets of operands to the right")
	}
	notFormed(t, append(slices.Repeat(list(v(0)), 67), slices.Repeat(list(and), 66)...))
}

// TestVars: one more than the greatest variable that is named, wherever (P13.4).
func TestVars(t *testing.T) {
	for _, x := range []struct {
		f    []api.Fnode
		want int
	}{
		{list(c(1)), 0}, {list(c(0), c(1), and), 0}, {list(v(0)), 1}, {list(v(65535)), 65536}, {list(v(3), exists(9)), 10}, {list(v(3), forall(9)), 10}, {list(v(9), forall(3)), 10}, {list(v(9), v(2), and), 10}, {list(v(2), v(9), and), 10}, {list(c(1), exists(0)), 1}, {list(c(1), exists(65535)), 65536}, {list(v(1), v(7), v(4), ite), 8}, {list(v(2), not), 3},
	} {
		if got, e := formula.Vars(x.f); got != x.want || e != api.OK {
			t.Errorf("%v: %d %d, want %d", x.f, got, e, x.want)
		}
	}
}

// TestSpelledOut: the form of the one text, sign by sign (P13.2).
func TestSpelledOut(t *testing.T) {
	want := "ite(x0 & x1, x0 ^ x1, x0 | x1) -> (!true <-> false) <-> exists x3, x4: forall x5: x0"
	f := list(v(0), v(1), and, v(0), v(1), xor, v(0), v(1), or, ite, c(1), not, c(0), iff, imp, v(0), forall(5), exists(4), exists(3), iff)
	if got, e := formula.Print(f); got != want || e != api.OK {
		t.Errorf("%q %d", got, e)
	}
}
