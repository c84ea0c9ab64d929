package turn_test

import (
	"slices"
	"testing"

	"strata/api"
	"strata/bench"
	"strata/turn"
)

// nodesOf are the records of nodes over 4 levels, of which the last one is the root.
func nodesOf(list ...[3]api.Ptr) []api.Rec {
	var out []api.Rec
	for _, n := range list {
		out = append(out, api.Rec{uint64(n[0]), uint64(n[1]), uint64(n[2])})
	}
	return append(out, bench.End(4, list[len(list)-1][0], len(list)))
}

// TestExamples: the chapter's table, row by row, over four levels.
func TestExamples(t *testing.T) {
	at := bench.At
	f := nodesOf([3]api.Ptr{at(3, 0), F, T}, [3]api.Ptr{at(2, 0), F, at(3, 0)}, [3]api.Ptr{at(1, 0), at(2, 0), T}, [3]api.Ptr{at(0, 0), at(2, 0), at(1, 0)})
	six := nodesOf([3]api.Ptr{at(3, 0), F, T}, [3]api.Ptr{at(2, 0), at(3, 0), T}, [3]api.Ptr{at(2, 1), F, T}, [3]api.Ptr{at(1, 0), at(2, 1), at(2, 0)}, [3]api.Ptr{at(1, 1), F, at(3, 0)}, [3]api.Ptr{at(0, 0), at(1, 1), at(1, 0)})
	was := bench.Holds(t, 2, nodeFile("f", f), nodeFile("six", six))
	swap := func(level int) func(b bench.Bench) api.Errno {
		return func(b bench.Bench) api.Errno { return turn.Swap(b.Desk, "f", level, "o") }
	}
	reorder := func(outs []string, from ...int) func(b bench.Bench) api.Errno {
		return func(b bench.Bench) api.Errno { return turn.Reorder(b.Desk, []string{"f"}, from, outs) }
	}
	one := []string{"o"}
	for _, c := range []struct {
		what string
		do   func(b bench.Bench) api.Errno
		e    api.Errno
		list []api.Rec
	}{
		{"Swap(f, 1)", swap(1), api.OK, six},
		{"Swap(f, 0)", swap(0), api.OK, f},
		{"Swap(f, 2)", swap(2), api.OK, f},
		{"Swap(f, 3)", swap(3), api.ErrLevel, nil},
		{"Swap(f, -1)", swap(-1), api.ErrLevel, nil},
		{"Reorder((f), (2, 3, 0, 1))", reorder(one, 2, 3, 0, 1), api.OK, f},
		{"Reorder((f), (0, 2, 1, 3))", reorder(one, 0, 2, 1, 3), api.OK, six},
		{"Reorder((f), (0, 1, 2))", reorder(one, 0, 1, 2), api.ErrPerm, nil},
		{"Reorder((f), (0, 1, 1, 3))", reorder(one, 0, 1, 1, 3), api.ErrPerm, nil},
		{"Reorder((f), (0, 1, 2, 3)) with no outs", reorder(nil, 0, 1, 2, 3), api.ErrArg, nil},
	} {
		b := bench.Mount(t, was, 128)
		b.Is(c.what, c.do(b), c.e)
		if c.e == api.OK {
			b.Made(c.what, nodeFile("o", c.list))
		} else {
			b.AsBefore(c.what)
		}
	}
	b := bench.Mount(t, was, 128)
	b.Is("Reorder(none)", turn.Reorder(b.Desk, nil, []int{1, 0}, nil), api.OK)
	b.AsBefore("Reorder(none)")
	costs(b, []string{"f"}, 0, []int{4, 4, 6, 6})
	costs(b, []string{"f", "f"}, 3, []int{12, 12, 8, 8})
	bests(b, []string{"f"}, []int{0, 1, 2, 3})
	bests(b, []string{"six"}, []int{0, 2, 1, 3})
	if list, e := turn.Cost(b.Desk, nil, 0); len(list) > 0 || e != api.ErrArg {
		t.Errorf("Cost(none, 0): %v, %d", list, e)
	}
	if list, e := turn.Best(b.Desk, nil); len(list) > 0 || e != api.ErrArg {
		t.Errorf("Best(none): %v, %d", list, e)
	}
}

// TestMove: the chapter's examples of the word, by which the other tests reckon.
func TestMove(t *testing.T) {
	for _, c := range []struct {
		v, p int
		want []int
	}{{1, 3, []int{0, 2, 3, 1}}, {3, 0, []int{3, 0, 1, 2}}, {2, 2, []int{0, 1, 2, 3}}} {
		if got := move(4, c.v, c.p); !slices.Equal(got, c.want) {
			t.Errorf("%d to %d: %v", c.v, c.p, got)
		}
	}
}
