package build_test

import (
	"testing"

	"strata/api"
	"strata/bench"
	"strata/build"
	"strata/circuit"
	"strata/formula"
)

// parsed is the formula of a text.
func parsed(t *testing.T, text string) []api.Fnode {
	t.Helper()
	f, fault := formula.Parse(text)
	if fault.Code != api.OK {
		t.Fatalf("%q: %v", text, fault)
	}
	return f
}

// two is the circuit of chapter 14's examples.
func two(t *testing.T) api.Circuit {
	t.Helper()
	c, fault := circuit.Parse("circuit two\ninput go\nlatch a 0 na\nlatch b 0 nb\ngate na xor a go\ngate c and a go\ngate nb xor b c\noutput a\noutput b\nend\n")
	if fault.Code != api.OK {
		t.Fatal(fault)
	}
	return c
}

// fileOf is the node file over n levels of these nodes, the last of which is the root.
func fileOf(n int, list ...[3]api.Ptr) []api.Rec {
	var out []api.Rec
	for _, x := range list {
		out = append(out, api.Rec{uint64(x[0]), uint64(x[1]), uint64(x[2])})
	}
	return append(out, bench.End(n, list[len(list)-1][0], len(list)))
}

// TestExamples: the chapter's table, row by row.
func TestExamples(t *testing.T) {
	at := bench.At
	low := [3]api.Ptr{at(1, 0), F, T}
	both := fileOf(2, low, [3]api.Ptr{0, F, at(1, 0)})
	second := fileOf(2, low, [3]api.Ptr{0, at(1, 0), F})
	xor := fileOf(2, low, [3]api.Ptr{at(1, 1), T, F}, [3]api.Ptr{0, at(1, 0), at(1, 1)})
	b := bench.Lie(t, 2)
	formulaOf := func(n int, text string, at ...int) api.Errno {
		return build.Formula(b.Desk, n, parsed(t, text), at, "o")
	}
	for _, c := range []struct {
		what string
		do   func() api.Errno
		e    api.Errno
		list []api.Rec
	}{
		{"x0 and x1 at 0, 1", func() api.Errno { return formulaOf(2, "x0 & x1", 0, 1) }, api.OK, both},
		{"the same at 1, 0", func() api.Errno { return formulaOf(2, "x0 & x1", 1, 0) }, api.OK, both},
		{"x0 and not x1 at 1, 0", func() api.Errno { return formulaOf(2, "x0 & !x1", 1, 0) }, api.OK, second},
		{"exists x1 over 1 level", func() api.Errno { return formulaOf(1, "exists x1: x0 & x1", 0) }, api.ErrArg, nil},
		{"exists x1 over 2 levels", func() api.Errno { return formulaOf(2, "exists x1: x0 & x1", 0, 1) }, api.OK, fileOf(2, [3]api.Ptr{0, F, T})},
		{"x0 at 0, 0", func() api.Errno { return formulaOf(2, "x0", 0, 0) }, api.ErrLevel, nil},
		{"x0 at 0, 5", func() api.Errno { return formulaOf(2, "x0", 0, 5) }, api.ErrLevel, nil},
		{"clauses (1, 2), (-1)", func() api.Errno {
			return build.Cnf(b.Desk, 2, api.Cnf{Vars: 2, Ends: []int{2, 3}, Lits: []int{1, 2, -1}}, []int{0, 1}, "o")
		}, api.OK, second},
		{"the table of the xor", func() api.Errno { return build.Table(b.Desk, 2, []bool{false, true, true, false}, "o") }, api.OK, xor},
		{"a table over 0 levels", func() api.Errno { return build.Table(b.Desk, 0, []bool{true}, "o") }, api.OK, []api.Rec{bench.End(0, T, 0)}},
		{"a table over 1 level", func() api.Errno { return build.Table(b.Desk, 1, []bool{true}, "o") }, api.ErrTable, nil},
		{"a table over 21 levels", func() api.Errno { return build.Table(b.Desk, 21, nil, "o") }, api.ErrArg, nil},
		{"the line c", func() api.Errno { return build.Line(b.Desk, 3, two(t), 4, []int{2, 0, 1}, "o") }, api.OK, fileOf(3, [3]api.Ptr{at(2, 0), F, T}, [3]api.Ptr{0, F, at(2, 0)})},
		{"now 0, 0", func() api.Errno { return build.Relation(b.Desk, 4, two(t), []int{0, 0}, []int{1, 3}, "o") }, api.ErrLevel, nil},
		{"now 0, 1 and next 1, 2", func() api.Errno { return build.Relation(b.Desk, 4, two(t), []int{0, 1}, []int{1, 2}, "o") }, api.ErrLevel, nil},
	} {
		b.Is(c.what, c.do(), c.e)
		if c.e == api.OK {
			b.Made(c.what, nodeFile("o", c.list))
			b.Disk().Delete("o")
		}
		b.AsBefore(c.what)
	}
	steps := bench.TableOf(4, func(x int) bool {
		from, to := bench.Side(bench.Bit(4, x, 0))+2*bench.Side(bench.Bit(4, x, 2)), bench.Side(bench.Bit(4, x, 1))+2*bench.Side(bench.Bit(4, x, 3))
		return to == from || to == (from+1)%4
	})
	b.Is("the steps of two", build.Relation(b.Desk, 4, two(t), []int{0, 2}, []int{1, 3}, "o"), api.OK)
	b.Made("the steps of two", nodeFile("o", bench.Canon(4, steps)))
}
