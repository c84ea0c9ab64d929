package nodes_test

import (
	"math"
	"testing"

	"strata/api"
	"strata/nodes"
	"strata/tape"
)

// reading is a call that reads one file.
type reading struct {
	what string
	do   func(k *tape.Desk, name string) api.Errno
	need int // blocks' records that must be free
}

// readings are all of them; each fails the test if it answers something beside an error.
func readings(t *testing.T) []reading {
	tell := func(zero bool, e api.Errno) api.Errno {
		t.Helper()
		if e != api.OK && !zero {
			t.Errorf("something is answered beside %d", e)
		}
		return e
	}
	return []reading{
		{"Look", func(k *tape.Desk, name string) api.Errno {
			i, e := nodes.Look(k, name)
			return tell(i == api.Info{}, e)
		}, 1},
		{"Up", func(k *tape.Desk, name string) api.Errno {
			c, e := nodes.Up(k, name)
			if e == api.OK {
				c.Close()
			}
			return tell(c == nil, e)
		}, 1},
		{"Down", func(k *tape.Desk, name string) api.Errno {
			c, e := nodes.Down(k, name)
			if e == api.OK {
				c.Close()
			}
			return tell(c == nil, e)
		}, 1},
		{"All", func(k *tape.Desk, name string) api.Errno {
			list, i, e := nodes.All(k, name)
			return tell(len(list) == 0 && i == api.Info{}, e)
		}, api.LeastK},
		{"Check", func(k *tape.Desk, name string) api.Errno { return nodes.Check(k, name) }, api.LeastK},
		{"Eval", func(k *tape.Desk, name string) api.Errno {
			v, e := nodes.Eval(k, name, []bool{true, true})
			return tell(!v, e)
		}, api.LeastK},
		{"Equal, first", func(k *tape.Desk, name string) api.Errno {
			v, e := nodes.Equal(k, name, "f")
			return tell(!v, e)
		}, api.LeastK},
		{"Equal, second", func(k *tape.Desk, name string) api.Errno {
			v, e := nodes.Equal(k, "f", name)
			return tell(!v, e)
		}, api.LeastK},
		{"Width", func(k *tape.Desk, name string) api.Errno {
			w, e := nodes.Width(k, name)
			return tell(w == 0, e)
		}, api.LeastK},
	}
}

// ending is a tape that has nothing but an end, or what is in its place.
func ending(name string, kind int, list ...api.Rec) strip { return strip{name, kind, list} }

// TestReadingRefuses: in the order of G6 and of G7. P7.5, P7.6, P7.9 to P7.13.
func TestReadingRefuses(t *testing.T) {
	const k = 2
	was := holds(t, k, append(strips(and()), ending("empty", api.KindNodes), ending("none", api.KindNodes, api.Rec{1, 2, 3, 4}), ending("inner", api.KindInner, and()...))...)
	for _, r := range readings(t) {
		for _, c := range []struct {
			name string
			free int // less than it needs, or as much
			want api.Errno
		}{
			{"f", 0, api.OK}, {"", 0, api.ErrName}, {"A", 0, api.ErrName}, {"no", 0, api.ErrNoFile}, {"open", 0, api.ErrOpen},
			{"empty", 0, api.ErrShape}, {"none", 0, api.ErrShape}, {"raw", 0, api.ErrKind}, {"inner", 0, api.ErrKind},
			{"A", -1, api.ErrName}, {"no", -1, api.ErrNoFile}, {"open", -1, api.ErrOpen}, {"f", -1, api.ErrBudget},
			{"empty", -1, api.ErrBudget}, {"none", -1, api.ErrBudget}, {"raw", -1, api.ErrBudget},
		} {
			b := mount(t, was, r.need*k+c.free)
			b.is([]any{r.what, c}, r.do(b.Desk, c.name), c.want)
			b.asBefore([]any{r.what, c})
			if c.want != api.OK && c.want != api.ErrShape && c.want != api.ErrKind && b.Disk().Counts().Calls > 0 {
				t.Errorf("%s: %+v: the disk was asked", r.what, c)
			}
			b.is([]any{r.what, "a nil desk"}, r.do(nil, c.name), api.ErrArg)
		}
		b := mount(t, was, r.need*k, api.Trouble{At: 0, Kind: api.TrCut})
		b.Disk().Create("cut")
		for _, name := range []string{"f", "A", "no", "open", "empty"} {
			b.is([]any{r.what, "without power"}, r.do(b.Desk, name), api.ErrOff)
		}
		b.is([]any{r.what, "a nil desk"}, r.do(nil, "A"), api.ErrArg)
		b.asBefore(r.what)
	}
}

// TestClosedPart: nothing is free in it. G6, G7.
func TestClosedPart(t *testing.T) {
	b := mount(t, holds(t, 1, strips(and())...), 999)
	part, _ := b.Purse().Part(500)
	k, _ := tape.NewDesk(b.Disk(), part)
	for _, r := range readings(t) {
		b.is(r.what, r.do(k, "f"), api.OK)
	}
	part.Close()
	for _, r := range readings(t) {
		b.still(r.what, func() { b.is(r.what, r.do(k, "f"), api.ErrBudget) })
	}
	b.asBefore("a closed part")
}

// TestEvalAsksForTheBits: too few, too many, none; behind the end, and ahead of all that a tape may have wrong otherwise. P7.11, G7.
func TestEvalAsksForTheBits(t *testing.T) {
	short := []api.Rec{rec(at(1, 0), F, T), end(2, 0, 3)} // an end, though not as many records as it says
	b := mount(t, holds(t, 1, append(strips(and(), short, []api.Rec{end(0, T, 0)}), ending("empty", api.KindNodes))...), 64)
	for _, c := range []struct {
		name string
		n    int
		want api.Errno
	}{
		{"f", 0, api.ErrArg}, {"f", 1, api.ErrArg}, {"f", 3, api.ErrArg}, {"f", 70000, api.ErrArg}, {"f", 2, api.OK},
		{"g", 1, api.ErrArg}, {"g", 2, api.ErrShape},
		{"h", 1, api.ErrArg}, {"h", 0, api.OK},
		{"empty", 9, api.ErrShape}, {"no", 9, api.ErrNoFile}, {"raw", 9, api.ErrKind},
	} {
		bits := make([]bool, c.n)
		if v, e := nodes.Eval(b.Desk, c.name, bits); e != c.want || v != (c.name == "h" && e == api.OK) {
			t.Errorf("Eval(%q, %d bits): %v, %d, want %d", c.name, c.n, v, e, c.want)
		}
	}
	if v, e := nodes.Eval(b.Desk, "h", nil); !v || e != api.OK { // G4
		t.Errorf("Eval without bits: %v, %d", v, e)
	}
	b.asBefore("Eval")
}

// TestEqualAsksForTheEnds: of f, then of g; then whether they are over as many levels; ahead of all that a tape may have wrong otherwise. P7.12, G7.
func TestEqualAsksForTheEnds(t *testing.T) {
	short := []api.Rec{rec(at(1, 0), F, T), end(2, 0, 3)}
	bent := []api.Rec{rec(at(1, 0), F, F), rec(0, F, T), end(2, 0, 2)}
	tapes := append(strips(and(), xor(), short, bent, []api.Rec{end(3, T, 0)}), ending("empty", api.KindNodes), ending("none", api.KindNodes, api.Rec{}))
	b := mount(t, holds(t, 1, tapes...), 64)
	for _, c := range []struct {
		f, g string
		same bool
		want api.Errno
	}{
		{"f", "f", true, api.OK}, {"f", "g", false, api.OK}, {"g", "f", false, api.OK},
		{"f", "j", false, api.ErrVars}, {"j", "f", false, api.ErrVars}, {"h", "j", false, api.ErrVars}, {"j", "i", false, api.ErrVars}, {"j", "h", false, api.ErrVars},
		{"h", "empty", false, api.ErrShape}, {"empty", "raw", false, api.ErrShape}, {"raw", "empty", false, api.ErrKind}, {"i", "raw", false, api.ErrKind}, {"j", "none", false, api.ErrShape},
		{"A", "no", false, api.ErrName}, {"no", "A", false, api.ErrNoFile}, {"open", "A", false, api.ErrOpen}, {"empty", "A", false, api.ErrName}, {"j", "no", false, api.ErrNoFile},
	} {
		if same, e := nodes.Equal(b.Desk, c.f, c.g); same != c.same || e != c.want {
			t.Errorf("Equal(%q, %q): %v, %d, want %v, %d", c.f, c.g, same, e, c.same, c.want)
		}
	}
	b.asBefore("Equal")
}

// TestGreatPurse: a budget that no memory has. G1, G10.
func TestGreatPurse(t *testing.T) {
	for _, k := range []int{1, 2, 2047} {
		b := mount(t, holds(t, k, strips(and())...), math.MaxInt-5)
		for _, r := range readings(t) {
			b.is(r.what, r.do(b.Desk, "f"), api.OK)
		}
		b.asBefore("a great purse")
	}
}
