package nodes_test

import (
	"slices"
	"testing"

	"strata/api"
	"strata/nodes"
)

// TestExamples: the chapter's table, row by row, over 2 levels.
func TestExamples(t *testing.T) {
	for _, k := range []int{1, 2, 3} {
		b := mount(t, holds(t, k), 70*k)
		no := func(level int, low, high api.Ptr, e api.Errno) add { return add{level, low, high, 0, e} }

		x := b.begin("a", 2)
		b.adds(x, add{1, F, T, at(1, 0), api.OK}, add{0, F, at(1, 0), at(0, 0), api.OK})
		b.is("Done", x.Done(at(0, 0)), api.OK)
		if got := b.records("a"); !slices.Equal(got, and()) {
			t.Errorf("the records are %v", got)
		}

		x = b.begin("b", 2)
		b.adds(x, no(2, F, T, api.ErrLevel), no(-1, F, T, api.ErrLevel))
		b.adds(x, no(1, F, F, api.ErrNode), no(1, at(1, 0), T, api.ErrNode), no(0, at(2, 0), T, api.ErrNode), no(0, 1<<63+2, T, api.ErrNode))
		b.adds(x, add{1, F, T, at(1, 0), api.OK}, add{1, T, F, at(1, 1), api.OK}, no(1, F, T, api.ErrNode))
		b.is("Done", x.Done(at(1, 1)), api.ErrRoot)
		b.is("Drop", x.Drop(), api.OK)

		x = b.begin("b", 2)
		b.adds(x, add{0, F, T, 0, api.OK}, no(1, F, T, api.ErrNode))
		b.is("Drop", x.Drop(), api.OK)

		x = b.begin("c", 2)
		b.adds(x, add{0, F, at(1, 7), 0, api.OK})
		b.is("Done", x.Done(0), api.OK)
		b.is("Check of c", nodes.Check(b.Desk, "c"), api.ErrShape)

		x = b.begin("d", 2)
		b.adds(x, add{1, F, T, at(1, 0), api.OK}, add{0, F, T, 0, api.OK})
		b.is("Done", x.Done(0), api.OK)
		b.is("Check of d", nodes.Check(b.Desk, "d"), api.ErrShape)

		x = b.begin("e", 2)
		b.is("Done", x.Done(at(1, 0)), api.ErrRoot)
		b.is("Done", x.Done(T), api.OK)
		if got := b.records("e"); !slices.Equal(got, []api.Rec{end(2, T, 0)}) {
			t.Errorf("the records are %v", got)
		}
		b.examplesOfReading()
		b.out("all", 0)
	}
}

func (b bench) examplesOfReading() {
	b.Helper()
	for _, c := range []struct {
		bits []bool
		want bool
		e    api.Errno
	}{{[]bool{true, false}, false, api.OK}, {[]bool{true, true}, true, api.OK}, {[]bool{true}, false, api.ErrArg}} {
		if v, e := nodes.Eval(b.Desk, "a", c.bits); v != c.want || e != c.e {
			b.Errorf("Eval(%v): %v, %d", c.bits, v, e)
		}
	}
	if same, e := nodes.Equal(b.Desk, "a", "a"); !same || e != api.OK {
		b.Errorf("Equal: %v, %d", same, e)
	}
	for name, want := range map[string]int{"a": 1, "e": 0} {
		if w, e := nodes.Width(b.Desk, name); w != want || e != api.OK {
			b.Errorf("Width of %s: %d, %d", name, w, e)
		}
	}
	low, high := api.Node{Self: at(1, 0), Low: F, High: T}, api.Node{Self: 0, Low: F, High: at(1, 0)}
	for way, want := range [][]api.Node{{low, high, {}, {}}, {high, low, {}, {}}} {
		c, e := ways()[way](b.Desk, "a")
		b.is("a cursor", e, api.OK)
		for i, n := range want {
			if got, some, e := c.Next(); got != n || some != (i < 2) || e != api.OK {
				b.Errorf("way %d, Next %d: %v, %v, %d", way, i, got, some, e)
			}
		}
		b.is("Close", c.Close(), api.OK)
	}
	b.lay("none", nil)
	if i, e := nodes.Look(b.Desk, "none"); i != (api.Info{}) || e != api.ErrShape {
		b.Errorf("Look of a tape without records: %+v, %d", i, e)
	}
}
