package turn_test

import (
	"math"
	"testing"

	"strata/api"
	"strata/bench"
	"strata/tape"
	"strata/turn"
)

// call is one of the calls, with what it is asked for beside its files.
type call struct {
	what  string
	bad   api.Errno // what its numbers and lists alone say; OK: nothing
	late  api.Errno // what is said of its levels when the ends (of 2 levels) are known
	reads int       // files that it reads
	makes int       // files that it makes
	do    func(k *tape.Desk, in, outs []string) (zero bool, e api.Errno)
}

// swapsOf are those of levels of any size.
func swapsOf() []call {
	var out []call
	for level, e := range map[int][2]api.Errno{math.MinInt: {api.ErrLevel}, -1: {api.ErrLevel}, 0: {}, 1: {0, api.ErrLevel}, 2: {0, api.ErrLevel}, most: {0, api.ErrLevel}, math.MaxInt - 1: {0, api.ErrLevel}, math.MaxInt: {0, api.ErrLevel}} {
		out = append(out, call{"Swap", e[0], e[1], 1, 1, func(k *tape.Desk, in, outs []string) (bool, api.Errno) {
			return true, turn.Swap(k, in[0], level, outs[0])
		}})
	}
	return out
}

// lists are permutations, and lists that are none.
func lists() []call {
	var out []call
	for _, c := range []struct {
		from      []int
		bad, late api.Errno
	}{
		{[]int{0, 1}, api.OK, api.OK},
		{[]int{1, 0}, api.OK, api.OK},
		{nil, api.OK, api.ErrPerm},
		{[]int{0}, api.OK, api.ErrPerm},
		{[]int{2, 0, 1}, api.OK, api.ErrPerm},
		{upTo(most), api.OK, api.ErrPerm},
		{upTo(most + 1), api.ErrPerm, api.OK},
		{[]int{1, 1}, api.ErrPerm, api.OK},
		{[]int{0, 0}, api.ErrPerm, api.OK},
		{[]int{0, 2}, api.ErrPerm, api.OK},
		{[]int{-1, 0}, api.ErrPerm, api.OK},
		{[]int{0, 1, 1}, api.ErrPerm, api.OK},
		{[]int{1}, api.ErrPerm, api.OK},
		{[]int{0, math.MinInt}, api.ErrPerm, api.OK},
		{[]int{math.MaxInt, 1}, api.ErrPerm, api.OK},
	} {
		for many := 1; many < 4; many++ {
			out = append(out, call{"Reorder", c.bad, c.late, many, many, func(k *tape.Desk, in, outs []string) (bool, api.Errno) {
				return true, turn.Reorder(k, in, c.from, outs)
			}})
		}
		for _, many := range [][2]int{{0, 1}, {1, 0}, {2, 1}, {1, 3}} { // ahead of what is said of the list
			out = append(out, call{"Reorder", api.ErrArg, api.OK, many[0], many[1], func(k *tape.Desk, in, outs []string) (bool, api.Errno) {
				return true, turn.Reorder(k, in, c.from, outs)
			}})
		}
	}
	return out
}

// sifts are Cost and Best, of no files and of some.
func sifts() []call {
	var out []call
	for many := range 4 {
		add := func(what string, bad, late api.Errno, do func(k *tape.Desk, in []string) ([]int, api.Errno)) {
			if many == 0 { // ahead of what is said of the level
				bad = api.ErrArg
			}
			out = append(out, call{what, bad, late, many, 0, func(k *tape.Desk, in, outs []string) (bool, api.Errno) {
				list, e := do(k, in)
				return len(list) == 0, e
			}})
		}
		add("Best", api.OK, api.OK, turn.Best)
		for level, e := range map[int][2]api.Errno{math.MinInt: {api.ErrLevel}, -1: {api.ErrLevel}, 0: {}, 1: {}, 2: {0, api.ErrLevel}, 64: {0, api.ErrLevel}, math.MaxInt: {0, api.ErrLevel}} {
			add("Cost", e[0], e[1], func(k *tape.Desk, in []string) ([]int, api.Errno) { return turn.Cost(k, in, level) })
		}
	}
	return out
}

// calls are all of them.
func calls() []call { return append(append(swapsOf(), lists()...), sifts()...) }

// wrongs are the tapes of the tests of refusals.
func wrongs() []bench.Strip {
	and, or := bench.Canon(2, bench.Number(2, 8)), bench.Canon(2, bench.Number(2, 14))
	return append(bench.Files(and, or, and),
		nodeFile("wide", bench.Canon(3, bench.Number(3, 0x96))),
		nodeFile("widest", []api.Rec{bench.End(api.MaxSift+1, T, 0)}),
		nodeFile("wide-long", []api.Rec{and[0], bench.End(api.MaxSift+1, T, 0)}),
		nodeFile("empty", nil),
		nodeFile("none", []api.Rec{{1, 2, 3, 4}}),
		nodeFile("great", []api.Rec{bench.End(most+1, T, 0)}),
		nodeFile("long", append([]api.Rec{and[0]}, and...)), // an end, though there are more records than it says
		bench.Strip{Name: "inner", Kind: api.KindInner, List: and},
	)
}

// try makes a call and looks at its refusal, and that the disk is not asked ahead of the ends.
func (c call) try(t *testing.T, was api.State, free int, want api.Errno, outs, in []string) {
	t.Helper()
	in, outs = in[:c.reads], outs[:c.makes]
	if c.bad != api.OK {
		want = c.bad
	}
	what := []any{c.what, c.bad, c.late, free, in, outs}
	b := bench.Mount(t, was, free)
	zero, e := c.do(nil, in, outs)
	b.Is(what, e, api.ErrArg)
	told, e := c.do(b.Desk, in, outs)
	b.Is(what, e, want)
	if !zero || !told && e != api.OK {
		t.Errorf("%v: it tells something beside %d", what, e)
	}
	if e == api.OK {
		b.Stays(what)
	} else {
		b.AsBefore(what)
	}
	asked := e == api.OK || c.bad == api.OK && (e == api.ErrShape || e == api.ErrKind || e == api.ErrVars || e == c.late)
	if n := b.Disk().Counts().Calls; n > 0 && !asked {
		t.Errorf("%+v: the disk was asked", what)
	}
}

// with is a list with another name in one place.
func with(list []string, i int, name string) []string {
	out := append([]string{}, list...)
	out[i] = name
	return out
}

func good() []string { return []string{"f", "g", "h"} }

func news() []string { return []string{"x", "y", "z"} }

// TestRefusals: in the order of G7. P12.1 to P12.4.
func TestRefusals(t *testing.T) {
	t.Parallel()
	const k = 2
	const least = api.LeastK * k
	was := bench.Holds(t, k, wrongs()...)
	for _, c := range calls() {
		c.try(t, was, least, c.late, news(), good())
		c.try(t, was, least-1, api.ErrBudget, news(), good())
		c.try(t, was, 0, api.ErrBudget, news(), good())
		for i := range c.makes {
			c.tryOuts(t, was, least, i)
		}
		for i := range c.reads {
			c.tryNames(t, was, least, i)
			c.tryEnds(t, was, least, i)
		}
		if c.reads == 1 && c.late != api.OK { // ahead of all that a file may have wrong otherwise
			c.try(t, was, least, c.late, news(), with(good(), 0, "long"))
		}
	}
}

// tryOuts: the name of the file i that is to be made is none, or there is such a file, or it stands among them ahead of here; ahead of all files that are read, and of a later one.
func (c call) tryOuts(t *testing.T, was api.State, least, i int) {
	t.Helper()
	wrong := map[string]api.Errno{"": api.ErrName, "F": api.ErrName, "a b": api.ErrName, "f": api.ErrExists, "open": api.ErrExists}
	if i > 0 {
		wrong["x"] = api.ErrExists
	}
	for name, want := range wrong {
		outs := with(news(), i, name)
		c.try(t, was, least, want, outs, good())
		c.try(t, was, 0, want, outs, good())
		for _, in := range []string{"", "no", "open", "raw", "wide"} {
			c.try(t, was, least, want, outs, with(good(), 0, in))
		}
		if i+1 < c.makes {
			for _, later := range []string{"", "f", outs[0]} {
				c.try(t, was, least, want, with(outs, i+1, later), good())
			}
		}
	}
}

// tryNames: the name of file i that is read is none, or there is no such file, or it is not sealed; ahead of the purse, ahead of a later one.
func (c call) tryNames(t *testing.T, was api.State, least, i int) {
	t.Helper()
	for name, want := range map[string]api.Errno{"": api.ErrName, "F": api.ErrName, "no": api.ErrNoFile, "open": api.ErrOpen} {
		in := with(good(), i, name)
		c.try(t, was, least, want, news(), in)
		c.try(t, was, 0, want, news(), in)
		if i+1 < c.reads {
			for _, later := range []string{"", "no", "open", "raw"} {
				c.try(t, was, least, want, news(), with(in, i+1, later))
			}
		}
		if i > 0 { // a wrong end comes behind all names
			c.try(t, was, least, want, news(), with(in, i-1, "raw"))
		}
	}
	if c.makes > 0 { // a file that is made is none that is read
		c.try(t, was, least, api.ErrNoFile, news(), with(good(), i, "x"))
	}
}

// tryEnds: file i does not end as a node file does; behind the purse, ahead of a later one, and of unlike numbers of levels; these ahead of what is said of the levels.
func (c call) tryEnds(t *testing.T, was api.State, least, i int) {
	t.Helper()
	for name, want := range map[string]api.Errno{"empty": api.ErrShape, "none": api.ErrShape, "great": api.ErrShape, "inner": api.ErrKind, "raw": api.ErrKind} {
		in := with(good(), i, name)
		c.try(t, was, least, want, news(), in)
		c.try(t, was, least-1, api.ErrBudget, news(), in)
		if c.reads == 1 {
			continue
		}
		c.try(t, was, least, want, news(), with(in, (i+1)%c.reads, "wide"))
		if i+1 < c.reads {
			later := "raw"
			if want == api.ErrKind {
				later = "none"
			}
			c.try(t, was, least, want, news(), with(in, i+1, later))
		}
	}
	if c.reads > 1 {
		c.try(t, was, least, api.ErrVars, news(), with(good(), i, "wide"))
		c.try(t, was, least, api.ErrVars, news(), with(good(), i, "widest"))
	}
}

// TestTooManyLevels: over 65 levels ErrMany is told, ahead of the level and of all that a file may have wrong otherwise; behind ErrArg, a level below 0, the purse. P12.3, P12.4.
func TestTooManyLevels(t *testing.T) {
	const k = 3
	was := bench.Holds(t, k, wrongs()...)
	for _, c := range sifts() {
		for _, f := range []string{"widest", "wide-long"} {
			in := []string{f, f, f}
			c.try(t, was, api.LeastK*k-1, api.ErrBudget, nil, in)
			c.late = api.ErrMany
			c.try(t, was, api.LeastK*k, api.ErrMany, nil, in)
		}
	}
}

// TestWithoutPower: ahead of all but a nil desk. G7.
func TestWithoutPower(t *testing.T) {
	b := bench.Mount(t, bench.Holds(t, 1, wrongs()...), 64, api.Trouble{At: 0, Kind: api.TrCut})
	b.Disk().Create("cut")
	for _, c := range calls() {
		for _, name := range []string{"f", "A", "no", "none", "widest"} {
			in := []string{name, name, name}
			if zero, e := c.do(b.Desk, in[:c.reads], in[:c.makes]); !zero || e != api.ErrOff {
				t.Errorf("%s of %s: %d", c.what, name, e)
			}
			if zero, e := c.do(nil, in[:c.reads], in[:c.makes]); !zero || e != api.ErrArg {
				t.Errorf("%s of %s: %d", c.what, name, e)
			}
		}
	}
	b.Is("no files", turn.Reorder(b.Desk, nil, nil, nil), api.ErrOff)
	b.Is("no files", turn.Reorder(nil, nil, nil, nil), api.ErrArg)
	b.AsBefore("all")
}

// TestNoFiles: Reorder of none still asks for what each operation asks; nothing is made. P12.2.
func TestNoFiles(t *testing.T) {
	was := bench.Holds(t, 2)
	for _, c := range []struct {
		from []int
		free int
		want api.Errno
	}{
		{nil, 128, api.OK},
		{[]int{1, 0}, 128, api.OK},
		{upTo(most), 128, api.OK},
		{upTo(most + 1), 128, api.ErrPerm},
		{[]int{1, 1}, 128, api.ErrPerm},
		{[]int{1, 1}, 0, api.ErrPerm},
		{[]int{1, 0}, 127, api.ErrBudget},
	} {
		b := bench.Mount(t, was, c.free)
		b.Still("no files", func() { b.Is(c.from[:min(9, len(c.from))], turn.Reorder(b.Desk, nil, c.from, nil), c.want) })
		b.AsBefore("no files")
	}
}

// TestClosedPart: nothing is free in it. G7.
func TestClosedPart(t *testing.T) {
	r := bench.Dice(7)
	g := anyGroup(&r, 4)
	b := bench.Mount(t, bench.Holds(t, 1, g.tapes()...), 999)
	part, _ := b.Purse().Part(500)
	k, _ := tape.NewDesk(b.Disk(), part)
	all := g.deeds(&r)
	for _, d := range all {
		if right, e := d.do(k); !right || e != api.OK {
			t.Errorf("%s: %v, %d", d.what, right, e)
		}
		for _, s := range d.makes {
			b.Disk().Delete(s.Name)
		}
	}
	part.Close()
	for _, d := range all {
		b.Still(d.what, func() {
			if _, e := d.do(k); e != api.ErrBudget {
				t.Errorf("%s: %d", d.what, e)
			}
		})
	}
	b.AsBefore("a closed part")
}
