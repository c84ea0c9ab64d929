package tally_test

import (
	"math"
	"testing"

	"strata/api"
	"strata/bench"
	"strata/tally"
	"strata/tape"
)

// strip is a tape of nodes.
func strip(name string, list []api.Rec) bench.Strip {
	return bench.Strip{Name: name, Kind: api.KindNodes, List: list}
}

// wrongs are the tapes of the tests of refusals: f is over two levels.
func wrongs() []bench.Strip {
	and := bench.Canon(2, bench.Number(2, 8))
	return append(bench.Files(and),
		strip("no-leaf", []api.Rec{bench.End(2, F, 0)}),
		strip("fifty", []api.Rec{bench.End(api.MaxTurns, T, 0)}),
		strip("wide", []api.Rec{bench.End(api.MaxTurns+1, T, 0)}),
		strip("widest", []api.Rec{bench.End(most, T, 0)}),
		strip("wide-long", []api.Rec{and[0], bench.End(api.MaxTurns+1, T, 0)}),
		strip("empty", nil),
		strip("none", []api.Rec{{1, 2, 3, 4}}),
		strip("great", []api.Rec{bench.End(most+1, T, 0)}),
		strip("long", append([]api.Rec{and[0]}, and...)), // an end, though there are more records than it says
		strip("false-long", append([]api.Rec{and[0]}, bench.End(2, F, 0))),
		bench.Strip{Name: "inner", Kind: api.KindInner, List: and},
	)
}

// lacks fails the test unless a call is refused so, tells nothing beside that, and leaves all as it was; the disk is asked for no more than the ends.
func (c ask) lacks(t *testing.T, was api.State, free int, f string, want api.Errno) {
	t.Helper()
	b := bench.Mount(t, was, free)
	zero, e := c.do(b.Desk, f)
	what := []any{c.what, f, free}
	b.Is(what, e, want)
	if !zero && e != api.OK {
		t.Errorf("%v: it tells something beside %d", what, e)
	}
	b.AsBefore(what)
	n := b.Disk().Counts()
	switch want {
	case api.ErrName, api.ErrNoFile, api.ErrOpen, api.ErrBudget:
		if n.Calls > 0 {
			t.Errorf("%v: the disk was asked %d times", what, n.Calls)
		}
	}
	if zero, e := c.do(nil, f); !zero || e != api.ErrArg {
		t.Errorf("%v: no desk: %d", what, e)
	}
}

// names are those that no file is read by, and why.
func names() map[string]api.Errno {
	return map[string]api.Errno{"": api.ErrName, "F": api.ErrName, "a b": api.ErrName, "a-name-that-is-longer-than-any-may": api.ErrName, "no": api.ErrNoFile, "open": api.ErrOpen}
}

// ends are the tapes that do not end as a node file, and what is told of them.
func ends() map[string]api.Errno {
	return map[string]api.Errno{"empty": api.ErrShape, "none": api.ErrShape, "great": api.ErrShape, "inner": api.ErrKind, "raw": api.ErrKind}
}

// TestRefusals: of the whole operations, in the order of G7. P11.1 to P11.6.
func TestRefusals(t *testing.T) {
	for _, k := range []int{1, 2, 5} {
		was := bench.Holds(t, k, wrongs()...)
		least := api.LeastK * k
		for _, c := range asks(2) {
			c.lacks(t, was, least, "f", api.OK)
			c.lacks(t, was, least-1, "f", api.ErrBudget)
			c.lacks(t, was, 0, "f", api.ErrBudget)
			for f, want := range names() {
				c.lacks(t, was, least, f, want)
				c.lacks(t, was, 0, f, want) // ahead of the purse
			}
			for f, want := range ends() {
				c.lacks(t, was, least, f, want)
				c.lacks(t, was, least-1, f, api.ErrBudget)
			}
			c.lacks(t, was, least, "long", api.ErrShape)
		}
	}
}

// TestRefusedTurns: behind the end ErrMany, then ErrArg; ahead of all that else may be wrong with the file. P11.4.
func TestRefusedTurns(t *testing.T) {
	const k = 2
	was := bench.Holds(t, k, wrongs()...)
	least := api.LeastK * k
	for _, turns := range []int{0, 1, 2, 3, 49, 50, 51, 52, 1000} {
		c := asks(turns)[3]
		want := api.ErrArg
		if turns == 2 {
			want = api.OK
		}
		c.lacks(t, was, least, "f", want)
		c.lacks(t, was, least, "no-leaf", want)
		c.lacks(t, was, least-1, "f", api.ErrBudget)
		if want == api.OK {
			want = api.ErrShape
		}
		c.lacks(t, was, least, "long", want)
		want = api.ErrArg
		if turns == 50 {
			want = api.OK
		}
		c.lacks(t, was, least, "fifty", want)
		for _, f := range []string{"wide", "widest", "wide-long"} {
			c.lacks(t, was, least, f, api.ErrMany)
			c.lacks(t, was, least-1, f, api.ErrBudget)
		}
		for f, want := range names() {
			c.lacks(t, was, least, f, want)
		}
		for f, want := range ends() {
			c.lacks(t, was, least, f, want)
		}
	}
	b := bench.Mount(t, was, least)
	if z, e := tally.Amplitude(b.Desk, "f", nil); z != 0 || e != api.ErrArg {
		t.Errorf("no turns: %v, %d", z, e)
	}
	if z, e := tally.Amplitude(b.Desk, "f", []int{math.MinInt, math.MaxInt}[:1]); z != 0 || e != api.ErrArg {
		t.Errorf("one turn: %v, %d", z, e)
	}
}

// TestNoAssignment: First of false is ErrLeaf, behind all refusals of G7. P11.6.
func TestNoAssignment(t *testing.T) {
	const k = 3
	was := bench.Holds(t, k, append(wrongs(), strip("bare", []api.Rec{bench.End(0, F, 0)}), strip("most", []api.Rec{bench.End(most, F, 0)}))...)
	least := api.LeastK * k
	first := asks(0)[5]
	for _, f := range []string{"no-leaf", "bare", "most"} {
		first.lacks(t, was, least, f, api.ErrLeaf)
		first.lacks(t, was, least-1, f, api.ErrBudget)
	}
	b := bench.Mount(t, was, least)
	if _, e := tally.First(b.Desk, "false-long"); e != api.ErrLeaf && e != api.ErrShape {
		t.Errorf("a wrong file that ends as false: %d", e)
	}
	b.AsBefore("a wrong file that ends as false")
}

// TestWithoutPower: ahead of all but a nil desk. G7.
func TestWithoutPower(t *testing.T) {
	b := bench.Mount(t, bench.Holds(t, 1, wrongs()...), 0, api.Trouble{At: 0, Kind: api.TrCut})
	b.Disk().Create("cut")
	for _, f := range []string{"f", "A", "no", "none", "open", "wide", "no-leaf"} {
		for _, c := range asks(7) {
			if zero, e := c.do(b.Desk, f); !zero || e != api.ErrOff {
				t.Errorf("%s of %s: %d", c.what, f, e)
			}
			if zero, e := c.do(nil, f); !zero || e != api.ErrArg {
				t.Errorf("%s of %s: %d", c.what, f, e)
			}
		}
		refusesCubes(b, f, api.ErrOff)
	}
	b.AsBefore("all")
}

// refusesCubes fails the test unless a pass of Cubes gives that refusal and nothing else.
func refusesCubes(b bench.Bench, f string, want api.Errno) {
	b.Helper()
	times := 0
	for text, e := range tally.Cubes(b.Desk, f) {
		times++
		if text != "" || e != want {
			b.Fatalf("Cubes of %s: %q, %d, want %d", f, text, e, want)
		}
	}
	if times != 1 {
		b.Fatalf("Cubes of %s: %d texts", f, times)
	}
	b.AsBefore(f)
}

// TestRefusedCubes: the refusals of nodes.Down, in its order; it asks for K records and no more. P11.7.
func TestRefusedCubes(t *testing.T) {
	for _, k := range []int{1, 2, 5} {
		was := bench.Holds(t, k, wrongs()...)
		for f, want := range names() {
			refusesCubes(bench.Mount(t, was, k), f, want)
			refusesCubes(bench.Mount(t, was, 0), f, want)
		}
		for f, want := range ends() {
			refusesCubes(bench.Mount(t, was, k), f, want)
			refusesCubes(bench.Mount(t, was, k-1), f, api.ErrBudget)
		}
		refusesCubes(bench.Mount(t, was, k), "long", api.ErrShape)
		refusesCubes(bench.Mount(t, was, k), "false-long", api.ErrShape)
		refusesCubes(bench.Mount(t, was, k), "wide-long", api.ErrShape)
		refusesCubes(bench.Mount(t, was, k-1), "f", api.ErrBudget)
		b := bench.Mount(t, was, k)
		if got := cubes(b, "f"); len(got) != 1 || got[0] != "11" {
			t.Errorf("K records free: %q", got)
		}
		b.AsBefore("K records free")
	}
	times := 0
	for text, e := range tally.Cubes(nil, "f") {
		if times++; text != "" || e != api.ErrArg || times > 1 {
			t.Errorf("no desk: %q, %d", text, e)
		}
	}
	if times != 1 {
		t.Errorf("no desk: %d times", times)
	}
}

// TestClosedPart: nothing is free in it. G6, G7.
func TestClosedPart(t *testing.T) {
	b := bench.Mount(t, bench.Holds(t, 1, wrongs()...), 999)
	part, _ := b.Purse().Part(500)
	k, _ := tape.NewDesk(b.Disk(), part)
	for _, c := range asks(2) {
		if _, e := c.do(k, "f"); e != api.OK {
			t.Errorf("%s: %d", c.what, e)
		}
	}
	part.Close()
	b.Still("a closed part", func() {
		for _, c := range asks(2) {
			if zero, e := c.do(k, "f"); !zero || e != api.ErrBudget {
				t.Errorf("%s: %d", c.what, e)
			}
		}
		for text, e := range tally.Cubes(k, "f") {
			if text != "" || e != api.ErrBudget {
				t.Errorf("Cubes: %q, %d", text, e)
			}
		}
	})
	b.AsBefore("a closed part")
}
