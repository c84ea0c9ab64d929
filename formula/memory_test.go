package formula_test

import (
	"slices"
	"testing"

	"strata/api"
	"strata/formula"
)

// TestHandedIn: lists that are handed in stay as they are, their spare room too, and what is behind them is not looked at (G2, G3).
func TestHandedIn(t *testing.T) {
	d := newDice(11)
	for range 300 {
		f := d.tree(1 + d.Below(12))
		g := spare(f, v(9))
		bits := spare([]bool{true, false}, true)
		was, wasBits := slices.Clone(g[:cap(g)]), slices.Clone(bits[:cap(bits)])
		text, e := formula.Print(g)
		plain, e2 := formula.Print(slices.Clip(f))
		vars, _ := formula.Vars(g)
		want, _ := formula.Vars(slices.Clip(f))
		formula.Formed(g)
		formula.Eval(g, bits)
		if text != plain || e != e2 || vars != want {
			t.Fatalf("%v: %q %d, %q %d", f, text, e, plain, e2)
		}
		if !slices.Equal(g[:cap(g)], was) || !slices.Equal(bits[:cap(bits)], wasBits) {
			t.Fatalf("%v has been changed", f)
		}
	}
	c := api.Cnf{Vars: 2, Ends: spare([]int{1, 2}, 3), Lits: spare([]int{1, -2}, 2)}
	ends, lits := slices.Clone(c.Ends[:cap(c.Ends)]), slices.Clone(c.Lits[:cap(c.Lits)])
	formula.FormedCnf(c)
	if text, e := formula.PrintCnf(c); text != "p cnf 2 2\n1 0\n-2 0\n" || e != api.OK {
		t.Errorf("%q %d", text, e)
	}
	if !slices.Equal(c.Ends[:cap(c.Ends)], ends) || !slices.Equal(c.Lits[:cap(c.Lits)], lits) {
		t.Error("clauses have been changed")
	}
}

// scribble writes over a list and its spare room.
func scribble[T any](list []T, with T) {
	list = list[:cap(list)]
	for i := range list {
		list[i] = with
	}
}

// TestAnswered: what is answered is new memory, each list of its own, its spare room too (G3).
func TestAnswered(t *testing.T) {
	for _, text := range []string{"true", "x0 & x1 | !x2", "exists x1, x2: ite(x1, x2, 0)"} {
		first, _ := formula.Parse(text)
		want := slices.Clone(first)
		second, _ := formula.Parse(text)
		scribble(first, v(77))
		third, _ := formula.Parse(text)
		if !slices.Equal(second, want) || !slices.Equal(third, want) {
			t.Errorf("%q: %v, %v, want %v", text, second, third, want)
		}
	}
	text := "p cnf 3 3\n1 0 2 -3 0 0"
	first, _ := formula.ParseCnf(text)
	lits := slices.Clone(first.Lits)
	second, _ := formula.ParseCnf(text)
	scribble(first.Ends, 7)
	if !slices.Equal(first.Lits, lits) || !slices.Equal(second.Ends, []int{1, 3, 3}) {
		t.Errorf("%v %v", first, second)
	}
	scribble(first.Lits, 8)
	if !slices.Equal(second.Lits, lits) || !slices.Equal(second.Ends, []int{1, 3, 3}) {
		t.Errorf("%v", second)
	}
}
