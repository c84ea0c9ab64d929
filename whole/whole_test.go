package whole_test

import (
	"slices"
	"testing"

	"strata/api"
	"strata/bench"
	"strata/whole"
)

// tapes are node files over two levels, one over three, and tapes that do not end as node files do.
func tapes() []bench.Strip {
	two := bench.Canon(2, bench.Number(2, 8))
	return append(bench.Files(two, two),
		bench.Strip{Name: "wide", Kind: api.KindNodes, List: bench.Canon(3, bench.Number(3, 8))},
		bench.Strip{Name: "noend", Kind: api.KindNodes, List: two[:1]})
}

// TestBegin: in the order of G7's steps 1 to 5, from the last on one refusal more is there.
func TestBegin(t *testing.T) {
	was := bench.Holds(t, 2, tapes()...)
	for _, c := range []struct {
		what    string
		wrong   api.Errno
		free    int
		in, out []string
		want    api.Errno
		ready   api.Errno // what is told without the ends
	}{
		{"nothing wrong", api.OK, 128, []string{"f", "g", "f"}, []string{"a", "b"}, api.OK, api.OK},
		{"no files", api.OK, 128, nil, nil, api.OK, api.OK},
		{"unlike levels", api.OK, 128, []string{"f", "wide"}, []string{"a"}, api.ErrVars, api.OK},
		{"a wrong end behind them", api.OK, 128, []string{"f", "wide", "raw"}, []string{"a"}, api.ErrKind, api.OK},
		{"two wrong ends", api.OK, 128, []string{"wide", "noend", "raw"}, []string{"a"}, api.ErrShape, api.OK},
		{"too little free", api.OK, 127, []string{"noend", "raw"}, []string{"a"}, api.ErrBudget, api.ErrBudget},
		{"not sealed", api.OK, 127, []string{"noend", "open"}, []string{"a"}, api.ErrOpen, api.ErrOpen},
		{"not there", api.OK, 127, []string{"no", "open"}, []string{"a"}, api.ErrNoFile, api.ErrNoFile},
		{"no name", api.OK, 127, []string{"F", "no"}, []string{"a"}, api.ErrName, api.ErrName},
		{"there already", api.OK, 127, []string{"F"}, []string{"a", "f"}, api.ErrExists, api.ErrExists},
		{"twice", api.OK, 127, []string{"F"}, []string{"a", "a"}, api.ErrExists, api.ErrExists},
		{"no name of out", api.OK, 127, []string{"no"}, []string{"A", "f"}, api.ErrName, api.ErrName},
		{"numbers", api.ErrLevel, 127, []string{"no"}, []string{"A"}, api.ErrLevel, api.ErrLevel},
	} {
		b := bench.Mount(t, was, c.free)
		ends, e := whole.Begin(b.Desk, c.wrong, c.in, c.out)
		b.Is(c.what, e, c.want)
		if e == api.OK && len(ends) != len(c.in) || e != api.OK && ends != nil {
			t.Errorf("%s: %v", c.what, ends)
		}
		for _, end := range ends {
			if end != (api.Info{Vars: 2, Root: 0, Nodes: 2}) {
				t.Errorf("%s: %+v", c.what, end)
			}
		}
		b.Still(c.what, func() { b.Is(c.what, whole.Ready(b.Desk, c.wrong, c.in, c.out), c.ready) })
		b.Is(c.what, whole.Ready(nil, c.wrong, c.in, c.out), api.ErrArg)
		b.AsBefore(c.what)
		off := bench.Mount(t, was, c.free, api.Trouble{At: 0, Kind: api.TrCut})
		off.Disk().Create("cut")
		off.Is(c.what, whole.Ready(off.Desk, c.wrong, c.in, c.out), api.ErrOff)
		off.Is(c.what, whole.Outcome(off.Desk, c.want), api.ErrOff)
		b.Is(c.what, whole.Outcome(b.Desk, c.want), c.want)
	}
}

// TestRemove: those that are there are deleted, the others are passed over, whatever befalls a Delete but a loss of power.
func TestRemove(t *testing.T) {
	was := bench.Holds(t, 1, tapes()...)
	b := bench.Mount(t, was, 64, api.Trouble{At: 0, Kind: api.TrFault})
	names := b.Disk().Names()
	whole.Remove(b.Desk, "no", "f", "", "open", "f", "wide")
	left := slices.DeleteFunc(names, func(name string) bool { return name == "f" || name == "open" || name == "wide" })
	if got := b.Disk().Names(); !slices.Equal(got, left) || b.Disk().Counts().Calls != 3 {
		t.Errorf("%v are left, want %v", got, left)
	}
	b = bench.Mount(t, was, 64, api.Trouble{At: 1, Kind: api.TrCut})
	whole.Remove(b.Desk, "f", "g", "wide")
	if got := b.Disk().State().Files; len(got) != len(was.Files)-1 {
		t.Errorf("%d files are left of %d", len(got), len(was.Files))
	}
	b.Is("power off", whole.Outcome(b.Desk, api.OK), api.ErrOff)
}
