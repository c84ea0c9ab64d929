package formula_test

import (
	"slices"
	"testing"

	"strata/api"
	"strata/bench"
	"strata/formula"
)

// fewVars is how many variables the formulas of the dice have, but for the last ones of all.
const fewVars = 3

// meaning is a formula as the chapter's table says it: a truth for each assignment.
type meaning func(truth map[int]bool) bool

// with is an assignment with one truth set.
func with(truth map[int]bool, n int, value bool) map[int]bool {
	out := map[int]bool{n: value}
	for k, b := range truth {
		if k != n {
			out[k] = b
		}
	}
	return out
}

// meaningOf is what a list means, node by node.
func meaningOf(f []api.Fnode) meaning {
	var stack []meaning
	for _, n := range f {
		under := slices.Clone(stack[len(stack)-operands(n.Op):])
		stack = append(stack[:len(stack)-len(under)], meaningOfNode(n, under))
	}
	return stack[0]
}

func meaningOfNode(n api.Fnode, under []meaning) meaning {
	return func(truth map[int]bool) bool {
		switch n.Op {
		case api.FoConst:
			return n.N == 1
		case api.FoVar:
			return truth[n.N]
		case api.FoExists:
			return under[0](with(truth, n.N, false)) || under[0](with(truth, n.N, true))
		case api.FoForall:
			return under[0](with(truth, n.N, false)) && under[0](with(truth, n.N, true))
		}
		var row int // the operands' truths, the first one the highest bit
		for _, u := range under {
			row *= 2
			if u(truth) {
				row++
			}
		}
		rows := map[int]string{api.FoNot: "10", api.FoAnd: "0001", api.FoOr: "0111", api.FoXor: "0110", api.FoImp: "1101", api.FoIff: "1001", api.FoIte: "01010011"}
		return rows[n.Op][row] == '1'
	}
}

// nested is how many quantifiers stand within one another.
func nested(f []api.Fnode) int {
	var stack []int
	for _, n := range f {
		rest := len(stack) - operands(n.Op)
		most := 0
		for _, below := range stack[rest:] {
			most = max(most, below)
		}
		if n.Op == api.FoExists || n.Op == api.FoForall {
			most++
		}
		stack = append(stack[:rest], most)
	}
	return stack[0]
}

// says: Eval answers a formula's meaning at each assignment of few variables, also where it tells only some of them.
func says(t *testing.T, f []api.Fnode) {
	t.Helper()
	want := meaningOf(f)
	for many := range fewVars + 1 {
		for x := range 1 << many {
			bits := make([]bool, many)
			truth := map[int]bool{}
			for i := range bits {
				bits[i] = bench.Bit(many, x, i)
				truth[i] = bits[i]
			}
			got, e := formula.Eval(f, bits)
			if nested(f) > api.MaxNested && (got || e != api.ErrMany) {
				t.Fatalf("%v: %t %d, want ErrMany", f, got, e)
			}
			if nested(f) <= api.MaxNested && (got != want(truth) || e != api.OK) {
				t.Fatalf("%v at %v: %t %d, want %t", f, bits, got, e, want(truth))
			}
		}
	}
}

// TestEval: each operator over each truth of its operands, all small formulas, and any others (P13.5).
func TestEval(t *testing.T) {
	for _, op := range list(not, and, or, xor, imp, iff, ite, exists(0), exists(1), forall(0), forall(2)) {
		says(t, append(list(v(0), v(1), v(2))[:operands(op.Op)], op))
		says(t, append(list(v(2), v(0), v(1))[:operands(op.Op)], op))
	}
	for nodes := 1; nodes <= 5; nodes++ {
		for _, f := range allTrees(nodes) {
			says(t, f)
		}
	}
	d := newDice(9)
	for range 1500 {
		says(t, d.tree(1+d.Below(20)))
	}
}

// TestScope: within a quantifier its variable has the truth that is tried, the innermost one's; behind it the assignment's (P13.5).
func TestScope(t *testing.T) {
	for _, x := range []struct {
		text string
		bits []bool
		want bool
	}{
		{"x0 & exists x0: !x0", []bool{true}, true},
		{"(exists x0: !x0) & x0", []bool{true}, true},
		{"(exists x0: x0) & x0", []bool{false}, false},
		{"(forall x0: x0 | !x0) & !x0", []bool{false}, true},
		{"exists x0: x0 & forall x0: x0 | !x0", []bool{false}, true},
		{"exists x0: (exists x0: !x0) & x0", nil, true},
		{"forall x0: (exists x0: x0) & (exists x0: !x0)", nil, true},
		{"forall x0: exists x1: x0 <-> x1", nil, true},
		{"exists x1: forall x0: x0 <-> x1", nil, false},
		{"exists x7: x7 & !x8", []bool{true}, true},
		{"x65535 | exists x65535: x65535", nil, true},
	} {
		f, _ := formula.Parse(x.text)
		if got, e := formula.Eval(f, x.bits); got != x.want || e != api.OK {
			t.Errorf("%q: %t %d", x.text, got, e)
		}
	}
}

// TestBits: a variable beyond the list is false, and what the list has beyond the variables is passed over (P13.5).
func TestBits(t *testing.T) {
	long := slices.Repeat([]bool{true}, 70000)
	for _, n := range []int{0, 1, 65535} {
		for _, many := range []int{0, n, n + 1, 65536, 70000} {
			if got, e := formula.Eval(list(v(n)), long[:many]); got != (n < many) || e != api.OK {
				t.Errorf("x%d of %d bits: %t %d", n, many, got, e)
			}
		}
	}
	if got, e := formula.Eval(list(c(1)), long); !got || e != api.OK {
		t.Errorf("true: %t %d", got, e)
	}
}

// TestNested: eight quantifiers within one another are worked out, nine are not, wherever they stand; side by side any number (P13.5).
func TestNested(t *testing.T) {
	tower := func(many int) []api.Fnode {
		f := list(v(0))
		for i := range many {
			f = append(f, of(newDice(uint64(i)), exists(i), forall(i+1), exists(0)), not)
		}
		return f
	}
	for many := range 12 {
		f := tower(many)
		for _, g := range [][]api.Fnode{f, append(slices.Clone(f), v(0), and), append(append(list(v(0)), f...), or), append(append(list(v(0), v(1)), f...), ite), append(append(list(c(0)), f...), v(1), ite), append(append(slices.Clone(f), f...), xor)} {
			says(t, g)
		}
	}
	side := tower(8)
	for range 50 {
		side = append(append(side, tower(1)...), iff)
	}
	if _, e := formula.Eval(side, nil); e != api.OK {
		t.Errorf("side by side: %d", e)
	}
}

// TestGreatEval: a formula of MaxTree nodes under eight quantifiers is worked out (P13.5, G1).
func TestGreatEval(t *testing.T) {
	f := list(v(0))
	for len(f)+2+8 <= api.MaxTree {
		f = append(f, v(1), xor)
	}
	for i := range 8 {
		f = append(f, forall(i+2))
	}
	if got, e := formula.Eval(f, []bool{true, true}); got == ((len(f)-9)/2%2 == 1) || e != api.OK {
		t.Errorf("%t %d", got, e)
	}
}
