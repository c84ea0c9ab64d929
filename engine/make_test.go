package engine_test

import (
	"slices"
	"strings"
	"testing"

	"strata/api"
	"strata/bench"
)

// TestEachFunction: the calls over all functions of two variables, in both orders. P18.2, W1, W2.
func TestEachFunction(t *testing.T) {
	for _, order := range [][]int{{0, 1}, {1, 0}} {
		r := begin(t, 3, room, options(2, 3))
		r.is(reorder(order...), refused(api.OK))
		for f := range 16 {
			r.is(load(2, bench.Number(2, f)), said(f+1))
		}
		next := 17
		makes := func(a act) {
			t.Helper()
			r.is(a, said(next))
			r.is(free(next), refused(api.OK))
			next++
		}
		for f := 1; f <= 16; f++ {
			makes(not(f))
			for v := range 2 {
				makes(exists(f, v))
				makes(forall(f, v))
				for _, truth := range []bool{false, true} {
					makes(restrict(f, api.Lit{Level: v, Value: truth}))
				}
				for g := 1; g <= 16; g += 3 {
					makes(compose(f, v, g))
				}
			}
			makes(rename(f, 1, 0))
			makes(exists(f))
			makes(forall(f, 1, 0))
			makes(restrict(f))
			for g := 1; g <= 16; g += 5 {
				makes(apply((f+g)%16, f, g))
				makes(ite(f, g, (f*g)%16+1))
			}
			for _, a := range []act{count(f), density(f), nodesOf(f), support(f), first(f), dump(f), equal(f, f), equal(f, 17-f)} {
				r.does(a)
			}
			for x := range 4 {
				r.does(eval(f, x > 1, x%2 == 1))
			}
		}
		for op := range 16 {
			makes(apply(op, 7, 11))
		}
	}
}

// TestInEachOrder of three variables: what is named are variables, wherever they stand. P18.2, P18.5.
func TestInEachOrder(t *testing.T) {
	lit := func(v int, truth bool) api.Lit { return api.Lit{Level: v, Value: truth} }
	bench.Orders(3, func(order []int) {
		r := begin(t, 2, room, options(3, 2))
		r.does(reorder(order...))
		r.script(text("x0 & !x1 | x2 & x1"), text("x2 -> x0"), variable(0), variable(1), variable(2), cube(lit(2, true), lit(0, false)), cube(lit(1, false)), cube(),
			clauses("p cnf 3 2\n1 -3 0\n-2 3 0\n"), clauses("p cnf 2 1\n-1 2 0\n"), clauses("p cnf 0 0\n"), clauses("p cnf 0 1\n0\n"), text("exists x1: x1 & x2 ^ x0"), text("true"),
			restrict(1, lit(1, true), lit(2, false)), exists(1, 2), exists(1, 0, 2), forall(2, 2), compose(1, 2, 2), rename(1, 2, 0, 1), rename(2, 0, 0, 1), rename(2, 1, 2, 1),
			load(3, bench.Number(3, 0x6a)), support(1), support(2), first(1), first(2), dump(1), eval(1, true, false, true), eval(2, false, true, true))
		if len(r.e.Handles()) != 22 {
			t.Errorf("%v: handles %v", order, r.e.Handles())
		}
	})
}

// badLists are lists of variables in which one of three is none, or stands twice.
func badLists() [][]int {
	return [][]int{{3}, {-1}, {0, 3}, {0, 0}, {2, 1, 2}, {1, -1 << 63}, {1<<63 - 1}, {0, 1, 2, 0}, {-1, -1}}
}

func litsOf(vars []int) []api.Lit {
	var list []api.Lit
	for i, v := range vars {
		list = append(list, api.Lit{Level: v, Value: i%2 == 0})
	}
	return list
}

// TestWrongNumbers: each refusal of the arguments, with right handles. P18.2.
func TestWrongNumbers(t *testing.T) {
	r := busy(t, 2)
	for _, list := range badLists() {
		r.is(cube(litsOf(list)...), refused(api.ErrLevel))
		r.is(restrict(2, litsOf(list)...), refused(api.ErrLevel))
		r.is(exists(2, list...), refused(api.ErrLevel))
		r.is(forall(2, list...), refused(api.ErrLevel))
	}
	for _, v := range []int{-1, 3, 1 << 40, -1 << 63, 1<<63 - 1} {
		r.is(variable(v), refused(api.ErrLevel))
		r.is(compose(1, v, 2), refused(api.ErrLevel))
		r.is(rename(1, 0, v, 2), refused(api.ErrLevel))
		r.is(rename(1, 0, v), refused(api.ErrArg)) // the length comes first
	}
	for _, to := range [][]int{nil, {0}, {0, 1}, {0, 1, 2, 3}} {
		r.is(rename(4, to...), refused(api.ErrArg))
	}
	for _, op := range []int{-1, 16, 1 << 40, -1 << 63} {
		r.is(apply(op, 1, 2), refused(api.ErrOp))
	}
	for _, f := range []int{-1, 0, 3, 7, 1 << 31, -1 << 63, 1<<63 - 1} { // 3 was freed
		for _, a := range everyCallOf(f) {
			r.is(a, refused(api.ErrHandle))
		}
	}
}

// everyCallOf is each call with that handle, in each place, and with other arguments that are wrong too.
func everyCallOf(f int) []act {
	bad := litsOf([]int{9})
	return []act{not(f), apply(6, f, 1), apply(6, 1, f), apply(99, f, 1), apply(99, 1, f), ite(f, 1, 2), ite(1, f, 2), ite(1, 2, f), restrict(f), restrict(f, bad...),
		exists(f), exists(f, 9), forall(f, 1), forall(f, 9), compose(f, 0, 1), compose(1, 0, f), compose(1, 9, f), rename(f, 0, 1, 2), rename(f), rename(f, 7, 7, 7), copyOf(f), free(f),
		count(f), density(f), nodesOf(f), support(f), first(f), eval(f, true, true, true), eval(f), equal(f, 1), equal(1, f), equal(f, f), dump(f)}
}

// TestTexts: their own faults at their places, all others at the zero place. P18.2.
func TestTexts(t *testing.T) {
	r := busy(t, 2)
	at := func(e api.Errno, line, col int) answer {
		return answer{fault: api.Fault{Code: e, At: api.Pos{Line: line, Col: col}}}
	}
	long := strings.Repeat(" ", 1<<20+1)
	r.is(text("x0 x1"), at(api.ErrToken, 1, 4))
	r.is(text("x9 & ("), at(api.ErrToken, 1, 7)) // the text's own fault comes ahead of its variables
	r.is(text("\nx0 & $"), at(api.ErrByte, 2, 6))
	r.is(text(long), refused(api.ErrLong))
	r.is(text("x3"), refused(api.ErrLevel))
	r.is(text("exists x3: x0"), refused(api.ErrLevel))
	r.is(clauses("p cnf 3 1\n4 0\n"), at(api.ErrLevel, 2, 1))
	r.is(clauses("p cnf 4 0\n"), refused(api.ErrLevel))
	r.is(clauses("p cnf 3"), at(api.ErrHead, 1, 8))
	r.is(clauses(long), refused(api.ErrLong))
	r.is(noLoad("", api.ErrText, 1, 1), at(api.ErrText, 1, 1))
	r.is(noLoad("strata 1\nlevels 2\nnodes 0\nroot T", api.ErrText, 4, 7), at(api.ErrText, 4, 7)) // its fault comes ahead of its levels
	r.is(noLoad(long, api.ErrLong, 0, 0), refused(api.ErrLong))
	r.is(load(2, bench.Number(2, 6)), refused(api.ErrVars))
	r.is(load(4, bench.Number(4, 6)), refused(api.ErrVars))
	r.is(load(0, []bool{true}), refused(api.ErrVars))
	r.is(load(3, bench.Number(3, 6)), said(7))
}

// TestDumpedAndLoaded: under one order it is the same function; under another one the same diagram. W11.
func TestDumpedAndLoaded(t *testing.T) {
	d := bench.Dice(5)
	for range 20 {
		r := begin(t, 1+d.Below(4), room, options(4, 5))
		r.script(load(4, d.Table(4)), reorder(d.Some(4, 4)...))
		text, _ := r.e.Dump(1)
		if h, f := r.e.Load(text); h != 2 || f != (api.Fault{}) {
			t.Fatalf("Load: %d, %v", h, f)
		}
		if same, e := r.e.Equal(1, 2); !same || e != api.OK {
			t.Fatalf("%s is not the same: %d", text, e)
		}
	}
}

// TestCopies: they have the file of the first, which is there as long as one of them is. P18.2, P18.3.
func TestCopies(t *testing.T) {
	r := begin(t, 1, room, options(2, 1))
	r.script(text("x0 ^ x1"), copyOf(1), copyOf(2), copyOf(1), not(3), free(2), free(1), swap(0), copyOf(4), free(3))
	a, _ := r.e.File(4)
	b, _ := r.e.File(6)
	if a != b || a == "" {
		t.Errorf("files %q, %q", a, b)
	}
	r.script(free(4), count(6), free(6))
	if slices.Contains(r.d.Names(), a) {
		t.Errorf("%s is still there", a)
	}
	r.is(free(6), refused(api.ErrHandle))
	r.is(constant(true), said(7))
}

// TestIds: a diagram may be as wide as it may be, and no wider; in any order of the variables. P18.2, P18.4.
func TestIds(t *testing.T) {
	for ids := 1; ids <= 5; ids++ {
		o := options(4, 2)
		o.Ids = ids
		r := begin(t, 2, room, o)
		r.script(text("x0 & x1 | x2 & x3"), text("x0 ^ x1"), text("x0 & x2 | x1 & x3"), constant(true), variable(3), load(4, bench.Number(4, 0x6a35)), load(5, bench.Number(5, 0x6a35)), not(1), apply(6, 1, 2))
		bench.Orders(4, func(order []int) { r.does(reorder(order...)) })
		r.script(sift(), own(1, api.OK), rename(1, 0, 2, 1, 3), copyOf(1))
	}
}

// TestArguments: lists that are handed in are neither changed nor kept, and what is answered is nobody's. G3.
func TestArguments(t *testing.T) {
	r := busy(t, 2)
	spare := func(list []int) []int { return append(list, 77)[:len(list)] }
	order, vars, to := spare([]int{1, 2, 0}), spare([]int{2, 0}), spare([]int{2, 0, 1})
	lits := append([]api.Lit{{Level: 2, Value: true}, {Level: 0}}, api.Lit{Level: 77})[:2]
	r.script(reorder(order...), cube(lits...), restrict(2, lits...), exists(2, vars...), forall(2, vars...), rename(1, to...))
	if !slices.Equal(order[:4], []int{1, 2, 0, 77}) || !slices.Equal(vars[:3], []int{2, 0, 77}) || !slices.Equal(to[:4], []int{2, 0, 1, 77}) || !slices.Equal(lits[:3], []api.Lit{{Level: 2, Value: true}, {Level: 0}, {Level: 77}}) {
		t.Errorf("%v, %v, %v, %v", order[:4], vars[:3], to[:4], lits[:3])
	}
	for _, list := range [][]int{order, r.e.Order(), r.e.Handles()} {
		list = list[:cap(list)]
		for i := range list {
			list[i] = -5
		}
	}
	r.rests("lists that were changed behind the calls")
	a, _ := r.e.Support(2)
	for i := range a {
		a[i] = 9
	}
	r.is(support(2), said([]int{0, 1, 2}))
	n, _ := r.e.Count(2)
	n.SetInt64(5)
	r.is(count(2), said(4))
}

// TestNoLists: nil and empty ones are the same. G4.
func TestNoLists(t *testing.T) {
	for _, none := range [][]int{nil, {}} {
		r := begin(t, 1, room, options(0, 1))
		for i, a := range []act{constant(true), cube(), text("true"), clauses("p cnf 0 0\n"), exists(1, none...), forall(1, none...), restrict(1), rename(1, none...), not(1)} {
			r.is(a, said(i+1))
		}
		r.is(reorder(none...), refused(api.OK))
		r.is(swap(0), refused(api.ErrLevel))
		r.is(sift(), refused(api.OK))
		r.is(first(1), said([]bool{}))
		r.is(first(9), refused(api.ErrLeaf))
		r.is(eval(1), said(true))
		r.is(count(1), said(1))
		if len(r.e.Order()) != 0 {
			t.Errorf("Order %v", r.e.Order())
		}
	}
}
