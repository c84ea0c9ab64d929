package sweep_test

import (
	"slices"
	"testing"

	"strata/api"
	"strata/bench"
	"strata/sweep"
	"strata/tape"
)

// TestExamples: the chapter's table, row by row, over 2 levels.
func TestExamples(t *testing.T) {
	x := []api.Rec{{0, uint64(F), uint64(T)}, bench.End(2, 0, 1)}
	y := []api.Rec{{uint64(bench.At(1, 0)), uint64(F), uint64(T)}, bench.End(2, bench.At(1, 0), 1)}
	and := []api.Rec{{uint64(bench.At(1, 0)), uint64(F), uint64(T)}, {0, uint64(F), uint64(bench.At(1, 0))}, bench.End(2, 0, 2)}
	tapes := []bench.Strip{strip("x", api.KindNodes, x), strip("y", api.KindNodes, y), strip("and", api.KindNodes, and)}
	lit := api.Lit{Level: 0, Value: true}
	for _, c := range []struct {
		what  string
		do    func(k *tape.Desk) api.Errno
		root  api.Ptr
		sides [][2]api.Ptr // of each node: 0:0, 1:0, 1:1, or 1:0 alone
	}{
		{"Two(OpAnd, x, y)", func(k *tape.Desk) api.Errno { return sweep.Two(k, api.OpAnd, "x", "y", "o") }, 0, [][2]api.Ptr{{F, bench.At(1, 0)}, {F, T}}},
		{"Two(OpXor, x, x)", func(k *tape.Desk) api.Errno { return sweep.Two(k, api.OpXor, "x", "x", "o") }, 0, [][2]api.Ptr{{F, F}}},
		{"Two(OpXor, x, y)", func(k *tape.Desk) api.Errno { return sweep.Two(k, api.OpXor, "x", "y", "o") }, 0, [][2]api.Ptr{{bench.At(1, 0), bench.At(1, 1)}, {F, T}, {T, F}}},
		{"Two(OpTrue, x, y)", func(k *tape.Desk) api.Errno { return sweep.Two(k, api.OpTrue, "x", "y", "o") }, 0, [][2]api.Ptr{{T, T}}},
		{"Three(x, y, y)", func(k *tape.Desk) api.Errno { return sweep.Three(k, "x", "y", "y", "o") }, 0, [][2]api.Ptr{{bench.At(1, 0), bench.At(1, 1)}, {F, T}, {F, T}}},
		{"Fix(x, 0 true)", func(k *tape.Desk) api.Errno { return sweep.Fix(k, "x", []api.Lit{lit}, "o") }, T, nil},
		{"Quant(and, 0, any)", func(k *tape.Desk) api.Errno { return sweep.Quant(k, "and", 0, true, "o") }, bench.At(1, 0), [][2]api.Ptr{{F, T}}},
		{"Quant(x, 1, any)", func(k *tape.Desk) api.Errno { return sweep.Quant(k, "x", 1, true, "o") }, 0, [][2]api.Ptr{{F, T}}},
		{"Swap(and, 0)", func(k *tape.Desk) api.Errno { return sweep.Swap(k, "and", 0, "o") }, 0, [][2]api.Ptr{{F, bench.At(1, 0)}, {F, T}}},
		{"Swap(y, 0)", func(k *tape.Desk) api.Errno { return sweep.Swap(k, "y", 0, "o") }, 0, [][2]api.Ptr{{F, T}}},
		{"Swap(x, 0)", func(k *tape.Desk) api.Errno { return sweep.Swap(k, "x", 0, "o") }, 0, [][2]api.Ptr{{bench.At(1, 0), bench.At(1, 1)}, {F, T}, {F, T}}},
	} {
		var want []api.Arc
		from := c.root
		for i, sides := range c.sides {
			if i == 1 {
				from = bench.At(1, 0)
			} else if i == 2 {
				from = bench.At(1, 1)
			}
			want = append(want, api.Arc{From: from, Side: 0, To: sides[0]}, api.Arc{From: from, Side: 1, To: sides[1]})
		}
		for _, k := range []int{1, 2, 5} {
			b := mount(t, bench.Holds(t, k, tapes...), 64*k)
			b.Is(c.what, c.do(b.Desk), api.OK)
			got, info, e := sweep.Arcs(b.Desk, "o")
			if !slices.Equal(got, want) || info != (api.Info{Vars: 2, Root: c.root, Nodes: len(c.sides)}) || e != api.OK {
				t.Errorf("%s: %v, %+v, %d", c.what, got, info, e)
			}
		}
	}
	b := mount(t, bench.Holds(t, 1, tapes...), 64)
	b.Is("Two", sweep.Two(b.Desk, api.OpAnd, "x", "y", "o"), api.OK)
	b.made("the tapes of Two(OpAnd, x, y)", "o", []api.Rec{{1 << 40, 0, 1, 0}}, []api.Rec{{0, 0, 1 << 63, 0}, {1 << 40, 0, 1 << 63, 0}, {1 << 40, 1, 1<<63 + 1, 0}, {1<<64 - 1, 2, 0, 2}})
}
