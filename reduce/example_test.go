package reduce_test

import (
	"testing"

	"strata/api"
	"strata/bench"
	"strata/reduce"
	"strata/sweep"
)

// TestExamples: the chapter's table, row by row, over 2 levels.
func TestExamples(t *testing.T) {
	word := func(p api.Ptr) uint64 { return uint64(p) }
	arc := func(from api.Ptr, side int, to api.Ptr) api.Arc { return api.Arc{From: from, Side: side, To: to} }
	ten, eleven := bench.At(1, 0), bench.At(1, 1)
	both := []api.Rec{{word(ten), word(F), word(T)}, {word(eleven), word(T), word(F)}, {0, word(eleven), word(ten)}, bench.End(2, 0, 3)}
	for i, c := range []struct {
		arcs []api.Arc
		root api.Ptr
		want []api.Rec
	}{
		{nil, T, []api.Rec{bench.End(2, T, 0)}},
		{[]api.Arc{arc(0, 0, F), arc(0, 1, T)}, 0, []api.Rec{{0, word(F), word(T)}, bench.End(2, 0, 1)}},
		{[]api.Arc{arc(0, 0, T), arc(0, 1, T)}, 0, []api.Rec{bench.End(2, T, 0)}},
		{[]api.Arc{arc(0, 0, ten), arc(0, 1, eleven), arc(ten, 0, F), arc(ten, 1, T), arc(eleven, 0, F), arc(eleven, 1, T)}, 0, []api.Rec{{word(ten), word(F), word(T)}, bench.End(2, ten, 1)}},
		{[]api.Arc{arc(0, 0, eleven), arc(0, 1, ten), arc(ten, 0, F), arc(ten, 1, T), arc(eleven, 0, T), arc(eleven, 1, F)}, 0, both},
		{[]api.Arc{arc(0, 0, ten), arc(0, 1, eleven), arc(ten, 0, T), arc(ten, 1, F), arc(eleven, 0, F), arc(eleven, 1, T)}, 0, both},
	} {
		for _, k := range []int{1, 2, 5} {
			b := mount(t, bench.Holds(t, k), 64*k)
			b.Is(i, sweep.Lay(b.Desk, c.arcs, api.Info{Vars: 2, Root: c.root, Nodes: len(c.arcs) / 2}, "a"), api.OK)
			b.Was = b.Disk().State()
			b.run(i, c.want)
		}
	}
	b := mount(t, bench.Holds(t, 1, arcs(nil, nil)...), 64)
	b.Is("an outer tape without records", reduce.Reduce(b.Desk, "a", "out"), api.ErrArcs)
	b.AsBefore("an outer tape without records")
}
