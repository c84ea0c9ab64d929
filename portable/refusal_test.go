package portable_test

import (
	"strings"
	"testing"

	"strata/api"
	"strata/bench"
	"strata/portable"
)

// wrongs are the tapes of the tests of refusals: f is over two levels.
func wrongs() []bench.Strip {
	and := bench.Canon(2, bench.Number(2, 8))
	return append(bench.Files(and),
		strip("true", []api.Rec{bench.End(2, T, 0)}),
		strip("empty", nil),
		strip("none", []api.Rec{{1, 2, 3, 4}}),
		strip("great", []api.Rec{bench.End(most+1, T, 0)}),
		strip("long", append([]api.Rec{and[0]}, and...)), // an end, though there are more records than it says
		strip("many", []api.Rec{and[0], bench.End(2, 0, 1<<62)}),
		bench.Strip{Name: "inner", Kind: api.KindInner, List: and},
	)
}

// lacks fails the test unless a call is refused so, tells no text beside that, and leaves all as it was.
func (c call) lacks(t *testing.T, was api.State, free int, f string, want api.Errno) {
	t.Helper()
	b := bench.Mount(t, was, free)
	text, e := c.do(b.Desk, f)
	what := []any{c.what, f, free}
	b.Is(what, e, want)
	if (text == "") != (e != api.OK) {
		t.Errorf("%v: %q beside %d", what, text, e)
	}
	b.AsBefore(what)
	switch want {
	case api.ErrName, api.ErrNoFile, api.ErrOpen, api.ErrBudget:
		if n := b.Disk().Counts().Calls; n > 0 {
			t.Errorf("%v: the disk was asked %d times", what, n)
		}
	}
	if text, e := c.do(nil, f); text != "" || e != api.ErrArg {
		t.Errorf("%v: no desk: %q, %d", what, text, e)
	}
}

// TestRefusals: of the calls that write texts, in the order of G7. P16.1, P16.3, P16.4.
func TestRefusals(t *testing.T) {
	for _, k := range []int{1, 2, 5} {
		was := bench.Holds(t, k, wrongs()...)
		least := api.LeastK * k
		for _, c := range calls() {
			for _, f := range []string{"f", "true"} {
				c.lacks(t, was, least, f, api.OK)
				c.lacks(t, was, least-1, f, api.ErrBudget)
				c.lacks(t, was, 0, f, api.ErrBudget)
			}
			for f, want := range map[string]api.Errno{"": api.ErrName, "F": api.ErrName, "a b": api.ErrName, "a-name-that-is-longer-than-any-may": api.ErrName, "no": api.ErrNoFile, "open": api.ErrOpen} {
				c.lacks(t, was, least, f, want)
				c.lacks(t, was, 0, f, want) // ahead of the purse
			}
			for f, want := range map[string]api.Errno{"empty": api.ErrShape, "none": api.ErrShape, "great": api.ErrShape, "inner": api.ErrKind, "raw": api.ErrKind, "long": api.ErrShape, "many": api.ErrShape} {
				c.lacks(t, was, least, f, want)
				c.lacks(t, was, least-1, f, api.ErrBudget)
			}
		}
	}
}

// TestRefusedLoads: in the order of G7, at the zero place but for the text's own faults, which come ahead of names and purse. P16.2.
func TestRefusedLoads(t *testing.T) {
	const k = 2
	was := bench.Holds(t, k, wrongs()...)
	least := api.LeastK * k
	tooLong := strings.Repeat("x", api.MaxText+1)
	for _, c := range []struct {
		what string
		text string
		out  string
		free int
		want api.Fault
	}{
		{"nothing wrong", good, "out", least, api.Fault{}},
		{"too little free", good, "out", least - 1, api.Fault{Code: api.ErrBudget}},
		{"nothing free", good, "out", 0, api.Fault{Code: api.ErrBudget}},
		{"there already", good, "f", 0, api.Fault{Code: api.ErrExists}},
		{"there already, not sealed", good, "open", 0, api.Fault{Code: api.ErrExists}},
		{"no name", good, "F", 0, api.Fault{Code: api.ErrName}},
		{"an empty name", good, "", 0, api.Fault{Code: api.ErrName}},
		{"the text", "", "", 0, noText(1, 1)},
		{"the text of a file that is there", good + "x", "f", 0, noText(8, 1)},
		{"the text's numbers", head + "nodes 1\nroot T\n", "F", 0, noText(3, 7)},
		{"a node that nothing goes to", head + "nodes 2\n2:0 F T\n1:0 F T\nroot 1:0\n", "f", 0, noText(4, 1)},
		{"a long text", tooLong, "F", 0, api.Fault{Code: api.ErrLong}},
		{"a long text that begins well", good + tooLong, "out", least, api.Fault{Code: api.ErrLong}},
	} {
		b := bench.Mount(t, was, c.free)
		if got := portable.Load(b.Desk, c.text, c.out); got != c.want {
			t.Errorf("%s: %v, want %v", c.what, got, c.want)
		}
		if c.want == (api.Fault{}) {
			b.Made(c.what, strip("out", recordsOf(good)))
			b.Disk().Delete("out")
		} else if n := b.Disk().Counts().Calls; n > 0 {
			t.Errorf("%s: the disk was asked %d times", c.what, n)
		}
		b.AsBefore(c.what)
		if got := portable.Load(nil, c.text, c.out); got != (api.Fault{Code: api.ErrArg}) {
			t.Errorf("%s: no desk: %v", c.what, got)
		}
		off := bench.Mount(t, was, c.free, api.Trouble{At: 0, Kind: api.TrCut})
		off.Disk().Create("cut")
		if got := portable.Load(off.Desk, c.text, c.out); got != (api.Fault{Code: api.ErrOff}) {
			t.Errorf("%s: without power: %v", c.what, got)
		}
		off.AsBefore(c.what)
	}
}

// TestWithoutPower: ahead of all but a nil desk. G7.
func TestWithoutPower(t *testing.T) {
	b := bench.Mount(t, bench.Holds(t, 1, wrongs()...), 0, api.Trouble{At: 0, Kind: api.TrCut})
	b.Disk().Create("cut")
	for _, f := range []string{"f", "A", "no", "none", "open", "many"} {
		for _, c := range calls() {
			if text, e := c.do(b.Desk, f); text != "" || e != api.ErrOff {
				t.Errorf("%s of %s: %q, %d", c.what, f, text, e)
			}
			if text, e := c.do(nil, f); text != "" || e != api.ErrArg {
				t.Errorf("%s of %s: %q, %d", c.what, f, text, e)
			}
		}
	}
	b.AsBefore("all")
}

// TestLoadIntoATemporary: a name that the desk gives is one like any other. DOC.md, Temporary.
func TestLoadIntoATemporary(t *testing.T) {
	b := bench.Lie(t, 1)
	name := b.Temp()
	if fault := portable.Load(b.Desk, good, name); fault != (api.Fault{}) {
		t.Fatalf("%v", fault)
	}
	b.Made(name, strip(name, recordsOf(good)))
}
