package formula_test

import (
	"slices"
	"testing"

	"strata/api"
	"strata/formula"
)

// TestExamplesOfParse: the chapter's examples of texts that are read (P13.1).
func TestExamplesOfParse(t *testing.T) {
	for _, x := range []struct {
		text string
		want []api.Fnode
	}{
		{"x0 & x1 | !x2", list(v(0), v(1), and, v(2), not, or)},
		{"x0 → x1 -> x2", list(v(0), v(1), v(2), imp, imp)},
		{"x0 ^ x1 ⊕ x2", list(v(0), v(1), xor, v(2), xor)},
		{"∃x1, x2: x1 & x2", list(v(1), v(2), and, exists(2), exists(1))},
		{"!exists x1: x1 | x0", list(v(1), v(0), or, exists(1), not)},
		{"ite(x0, 1, false)", list(v(0), c(1), c(0), ite)},
		{"x0 <-> x1 <-> x2", list(v(0), v(1), iff, v(2), iff)},
		{"!exists x1: x1 & x2 | x3", list(v(1), v(2), and, v(3), or, exists(1), not)},
	} {
		got, fault := formula.Parse(x.text)
		if fault != (api.Fault{}) || !slices.Equal(got, x.want) {
			t.Errorf("%q: %v %v, want %v", x.text, got, fault, x.want)
		}
	}
}

// TestExamplesOfFaults: the chapter's examples of texts that are refused (P13.1).
func TestExamplesOfFaults(t *testing.T) {
	for _, x := range []struct {
		text string
		want api.Fault
	}{
		{"", at(api.ErrToken, 1, 1)},
		{"x0 x1", at(api.ErrToken, 1, 4)},
		{"x01", at(api.ErrNumber, 1, 1)},
		{"xy", at(api.ErrToken, 1, 1)},
		{"2", at(api.ErrNumber, 1, 1)},
		{"x0 & ∧", at(api.ErrToken, 1, 6)},
		{"¬∧", at(api.ErrToken, 1, 3)},
		{"x0 =", at(api.ErrByte, 1, 4)},
		{"x", at(api.ErrNumber, 1, 1)},
		{"X1", at(api.ErrToken, 1, 1)},
		{"1x0", at(api.ErrToken, 1, 2)},
		{"x0 <- x1", at(api.ErrByte, 1, 4)},
		{"x0 -", at(api.ErrByte, 1, 4)},
		{"x0x1", at(api.ErrNumber, 1, 1)},
		{"x1x2", at(api.ErrNumber, 1, 1)},
	} {
		refuses(t, x.text, x.want)
	}
}

// refuses: Parse answers no nodes and a fault.
func refuses(t *testing.T, text string, want api.Fault) {
	t.Helper()
	if got, fault := formula.Parse(text); fault != want || len(got) != 0 {
		t.Errorf("%.60q: %d nodes, %v, want %v", text, len(got), fault, want)
	}
}

// TestExamplesOfPrint: the chapter's examples of a formula's one text (P13.2).
func TestExamplesOfPrint(t *testing.T) {
	for _, x := range []struct {
		want string
		f    []api.Fnode
	}{
		{"(exists x1: x1) & x2", list(v(1), exists(1), v(2), and)},
		{"x2 & exists x1: x1", list(v(2), v(1), exists(1), and)},
		{"x0 & (exists x1: x1) | x2", list(v(0), v(1), exists(1), and, v(2), or)},
		{"!(exists x1: x1) & x2", list(v(1), exists(1), not, v(2), and)},
		{"(x0 | exists x1: x1) & x2", list(v(0), v(1), exists(1), or, v(2), and)},
		{"(x0 -> x1) -> x2", list(v(0), v(1), imp, v(2), imp)},
		{"x0 -> x1 -> x2", list(v(0), v(1), v(2), imp, imp)},
		{"!!x0", list(v(0), not, not)},
		{"!(x0 & x1)", list(v(0), v(1), and, not)},
		{"exists x1, x2: x0", list(v(0), exists(2), exists(1))},
		{"exists x1: forall x2, x3: exists x4: x0", list(v(0), exists(4), forall(3), forall(2), exists(1))},
		{"ite(true, false, x65535)", list(c(1), c(0), v(65535), ite)},
	} {
		if got, e := formula.Print(x.f); got != x.want || e != api.OK {
			t.Errorf("%v: %q %d, want %q", x.f, got, e, x.want)
		}
	}
}

// TestExampleOfEval: the chapter's example (P13.5).
func TestExampleOfEval(t *testing.T) {
	if got, e := formula.Eval(list(v(0), v(1), and, exists(0)), []bool{false, true}); !got || e != api.OK {
		t.Errorf("%t %d", got, e)
	}
}

// TestExamplesOfClauses: the chapter's examples of clauses (P13.6).
func TestExamplesOfClauses(t *testing.T) {
	for _, x := range []struct {
		text  string
		want  api.Cnf
		fault api.Fault
	}{
		{"c hi\np cnf 2 2\n1 -2 0 2\n0\n", api.Cnf{Vars: 2, Ends: []int{2, 3}, Lits: []int{1, -2, 2}}, api.Fault{}},
		{"p cnf 0 1\n0\n", api.Cnf{Ends: []int{0}}, api.Fault{}},
		{"p cnf 1 1\n2 0", api.Cnf{}, at(api.ErrLevel, 2, 1)},
		{"p cnf 1 1\n1", api.Cnf{}, at(api.ErrHead, 2, 2)},
		{"p cnf 1 1\n1 0 1 0", api.Cnf{}, at(api.ErrHead, 2, 5)},
		{"p cnf 1", api.Cnf{}, at(api.ErrHead, 1, 8)},
		{"p\ncnf 1 1\n", api.Cnf{}, at(api.ErrHead, 1, 2)},
		{"", api.Cnf{}, at(api.ErrHead, 1, 1)},
		{"p cnf 1 1\n-0 0", api.Cnf{}, at(api.ErrNumber, 2, 1)},
		{"p cnf 01 1", api.Cnf{}, at(api.ErrNumber, 1, 7)},
	} {
		readsClauses(t, x.text, x.want, x.fault)
	}
	if got, e := formula.PrintCnf(api.Cnf{Vars: 2, Ends: []int{2, 2, 3}, Lits: []int{1, -2, 2}}); got != "p cnf 2 3\n1 -2 0\n0\n2 0\n" || e != api.OK {
		t.Errorf("%q %d", got, e)
	}
}

// readsClauses: ParseCnf answers clauses and a fault.
func readsClauses(t *testing.T, text string, want api.Cnf, wantFault api.Fault) {
	t.Helper()
	if got, fault := formula.ParseCnf(text); fault != wantFault || !sameClauses(got, want) {
		t.Errorf("%.80q: %d variables, ends %.20v, literals %.20v, %v, want %v %v", text, got.Vars, got.Ends, got.Lits, fault, want, wantFault)
	}
}

func sameClauses(a, b api.Cnf) bool {
	return a.Vars == b.Vars && slices.Equal(a.Ends, b.Ends) && slices.Equal(a.Lits, b.Lits)
}
