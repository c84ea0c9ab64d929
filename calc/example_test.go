package calc_test

import (
	"testing"

	"strata/api"
	"strata/bench"
	"strata/calc"
)

// TestExamples: the chapter's table, row by row, over two levels.
func TestExamples(t *testing.T) {
	node := func(level, id int, low, high api.Ptr) api.Rec {
		return api.Rec{uint64(bench.At(level, id)), uint64(low), uint64(high), 0}
	}
	deep := bench.At(1, 0)
	a := []api.Rec{node(0, 0, F, T), bench.End(2, 0, 1)}
	b := []api.Rec{node(1, 0, F, T), bench.End(2, deep, 1)}
	notA := []api.Rec{node(0, 0, T, F), bench.End(2, 0, 1)}
	cubeFile := []api.Rec{node(1, 0, T, F), node(0, 0, F, deep), bench.End(2, 0, 2)}
	xor := []api.Rec{node(1, 0, F, T), node(1, 1, T, F), node(0, 0, deep, bench.At(1, 1)), bench.End(2, 0, 3)}
	yes, no := []api.Rec{bench.End(2, T, 0)}, []api.Rec{bench.End(2, F, 0)}
	was := bench.Holds(t, 2, nodeFile("a", a), nodeFile("b", b), nodeFile("cube", cubeFile), nodeFile("xor", xor),
		nodeFile("wide", bench.Canon(3, bench.Number(3, 1))), nodeFile("noend", a[:1]), nodeFile("there", nil))
	lit := func(level int, v bool) api.Lit { return api.Lit{Level: level, Value: v} }
	for _, c := range []struct {
		what string
		do   func(m bench.Bench) api.Errno
		e    api.Errno
		list []api.Rec
	}{
		{"Const(2, true)", func(m bench.Bench) api.Errno { return calc.Const(m.Desk, 2, true, "o") }, api.OK, yes},
		{"Var(2, 1)", func(m bench.Bench) api.Errno { return calc.Var(m.Desk, 2, 1, "o") }, api.OK, b},
		{"Var(2, 2)", func(m bench.Bench) api.Errno { return calc.Var(m.Desk, 2, 2, "o") }, api.ErrLevel, nil},
		{"Var(-1, 0)", func(m bench.Bench) api.Errno { return calc.Var(m.Desk, -1, 0, "o") }, api.ErrArg, nil},
		{"Var(65537, 0)", func(m bench.Bench) api.Errno { return calc.Var(m.Desk, 65537, 0, "o") }, api.ErrArg, nil},
		{"Cube(2, (1 false), (0 true))", func(m bench.Bench) api.Errno {
			return calc.Cube(m.Desk, 2, []api.Lit{lit(1, false), lit(0, true)}, "o")
		}, api.OK, cubeFile},
		{"Cube(2, (0 true), (0 true))", func(m bench.Bench) api.Errno { return calc.Cube(m.Desk, 2, []api.Lit{lit(0, true), lit(0, true)}, "o") }, api.ErrLevel, nil},
		{"Apply(OpXor, a, b)", func(m bench.Bench) api.Errno { return calc.Apply(m.Desk, api.OpXor, "a", "b", "o") }, api.OK, xor},
		{"Apply(OpImp, a, a)", func(m bench.Bench) api.Errno { return calc.Apply(m.Desk, api.OpImp, "a", "a", "o") }, api.OK, yes},
		{"Apply(16)", func(m bench.Bench) api.Errno { return calc.Apply(m.Desk, 16, "", "no", "o") }, api.ErrOp, nil},
		{"Apply where out is there", func(m bench.Bench) api.Errno { return calc.Apply(m.Desk, api.OpAnd, "a", "no", "there") }, api.ErrExists, nil},
		{"Restrict(xor, (1 true))", func(m bench.Bench) api.Errno { return calc.Restrict(m.Desk, "xor", []api.Lit{lit(1, true)}, "o") }, api.OK, notA},
		{"Exists(cube, (1))", func(m bench.Bench) api.Errno { return calc.Exists(m.Desk, "cube", []int{1}, "o") }, api.OK, a},
		{"Exists(a, (0, 0))", func(m bench.Bench) api.Errno { return calc.Exists(m.Desk, "a", []int{0, 0}, "o") }, api.ErrLevel, nil},
		{"Exists(a, (2))", func(m bench.Bench) api.Errno { return calc.Exists(m.Desk, "a", []int{2}, "o") }, api.ErrLevel, nil},
		{"Exists(a, ())", func(m bench.Bench) api.Errno { return calc.Exists(m.Desk, "a", nil, "o") }, api.OK, a},
		{"Compose(cube, 0, b)", func(m bench.Bench) api.Errno { return calc.Compose(m.Desk, "cube", 0, "b", "o") }, api.OK, no},
		{"Ite with a wrong end", func(m bench.Bench) api.Errno { return calc.Ite(m.Desk, "a", "wide", "noend", "o") }, api.ErrShape, nil},
		{"Rename(a, (1, 1))", func(m bench.Bench) api.Errno { return calc.Rename(m.Desk, "a", []int{1, 1}, "o") }, api.OK, b},
		{"Rename(xor, (1, 0))", func(m bench.Bench) api.Errno { return calc.Rename(m.Desk, "xor", []int{1, 0}, "o") }, api.OK, xor},
		{"Rename(xor, (0, 0))", func(m bench.Bench) api.Errno { return calc.Rename(m.Desk, "xor", []int{0, 0}, "o") }, api.ErrLevel, nil},
		{"Rename(a, (1))", func(m bench.Bench) api.Errno { return calc.Rename(m.Desk, "a", []int{1}, "o") }, api.ErrLevel, nil},
	} {
		m := bench.Mount(t, was, 128)
		m.Is(c.what, c.do(m), c.e)
		if c.e == api.OK {
			m.Made(c.what, nodeFile("o", c.list))
		} else {
			m.AsBefore(c.what)
		}
	}
	for name, e := range map[string]api.Errno{"a": api.OK, "noend": api.ErrShape, "raw": api.ErrKind} {
		m := bench.Mount(t, was, 128)
		m.Purse().Take(1)
		m.Is("Not with fewer than 64 K free", calc.Not(m.Desk, name, "o"), api.ErrBudget)
		m.Purse().Give(1)
		m.Is("Not with 64 K free", calc.Not(m.Desk, name, "o"), e)
	}
}
