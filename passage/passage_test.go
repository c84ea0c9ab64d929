package passage_test

import (
	"slices"
	"testing"

	"strata/api"
	"strata/bench"
	"strata/nodes"
	"strata/passage"
	"strata/sweep"
	"strata/tape"
)

// and is the node file of "level 0 and level 1".
func and() []api.Rec { return bench.Canon(2, bench.Number(2, 8)) }

// swap is a passage over the file f, whose two levels are changed with one another; what is kept of it is the name of its arcs.
func swap(k *tape.Desk, names *[]string) api.Errno {
	return passage.Through(k, func(arcs string) api.Errno {
		*names = append(*names, arcs)
		return sweep.Swap(k, "f", 0, arcs)
	}, "out")
}

// TestThrough: it makes the one file, time and again; its arcs have names that no file has, those of tapes that were left among them.
func TestThrough(t *testing.T) {
	b := bench.Lie(t, 1, bench.Files(and())...)
	var names []string
	for range 5 {
		b.Is("Through", swap(b.Desk, &names), api.OK)
		b.Made("Through", bench.Strip{Name: "out", Kind: api.KindNodes, List: and()})
		b.Disk().Delete("out")
	}
	for i, name := range names {
		if name == "tmp-2" || name == "tmp-5" || slices.Contains(names[:i], name) {
			t.Errorf("the names are %v", names)
		}
	}
}

// TestRefused: what the sweep or the reduction is refused is told, and nothing is left.
func TestRefused(t *testing.T) {
	b := bench.Lie(t, 1, bench.Files(and())...)
	b.Is("a sweep that makes nothing", passage.Through(b.Desk, func(string) api.Errno { return api.OK }, "out"), api.ErrNoFile)
	b.AsBefore("a sweep that makes nothing")
	b.Is("a sweep that is refused", passage.Through(b.Desk, func(arcs string) api.Errno { return sweep.Swap(b.Desk, "f", 1, arcs) }, "out"), api.ErrLevel)
	b.AsBefore("a sweep that is refused")
	var names []string
	b.Disk().Create("out")
	b.Is("a file that is there", swap(b.Desk, &names), api.ErrExists)
	b.Disk().Delete("out")
	b.AsBefore("a file that is there")
}

// TestTroubles: a fault, or the power off, at each call; a full disk. (That power which goes off with the last Delete is told, whoever calls sees to.)
func TestTroubles(t *testing.T) {
	p := bench.Plot{What: "Through", K: 1, Tapes: bench.Files(and()), Makes: []bench.Strip{{Name: "out", Kind: api.KindNodes, List: and()}}, Do: func(k *tape.Desk) api.Errno {
		var names []string
		e := swap(k, &names)
		if !k.Disk().On() {
			return api.ErrOff
		}
		return e
	}}
	bench.EachCall(t, []bench.Plot{p})
	bench.BehindAFault(t, 1, []bench.Plot{p})
	bench.FullDisk(t, []bench.Plot{p})
}

// doubled takes each level to the one of twice its number, over so many levels.
func doubled(k *tape.Desk, f string, vars int) api.Errno {
	return passage.Relabel(k, f, vars, func(level int) (int, bool) { return 2 * level, true }, "out")
}

// TestRelabel: levels go to others, over more levels and over fewer; the nodes stay as they are.
func TestRelabel(t *testing.T) {
	r := bench.Dice(1)
	for n := range 7 {
		table := r.Table(n)
		list := bench.Canon(n, table)
		places := make([]int, n)
		for l := range places {
			places[l] = 2 * l
		}
		b := bench.Lie(t, 1+n%3, bench.Files(list)...)
		b.Is("Relabel", doubled(b.Desk, "f", 2*n+1), api.OK)
		b.Made("Relabel", bench.Strip{Name: "out", Kind: api.KindNodes, List: bench.Spread(list, 2*n+1, places)})
		back := func(level int) (int, bool) { return level / 2, level%2 == 0 }
		b.Is("and back", passage.Relabel(b.Desk, "out", n, back, "again"), api.OK)
		b.Disk().Delete("out")
		b.Made("and back", bench.Strip{Name: "again", Kind: api.KindNodes, List: list})
	}
}

// TestRelabelRefused: where a level has no goal, or one that there is not, or goals that do not rise, nothing is left; nor where the builder is refused otherwise.
func TestRelabelRefused(t *testing.T) {
	b := bench.Lie(t, 1, bench.Files(and(), bench.Gaps()[0])...)
	for _, c := range []struct {
		what string
		file string
		vars int
		goal passage.Goal
		want api.Errno
	}{
		{"no goal", "f", 2, func(level int) (int, bool) { return level, level < 1 }, api.ErrShape},
		{"no goal of the root", "f", 2, func(level int) (int, bool) { return level, level > 0 }, api.ErrShape},
		{"a level that there is not", "f", 1, func(level int) (int, bool) { return level, true }, api.ErrLevel},
		{"levels that do not rise", "f", 2, func(level int) (int, bool) { return 1 - level, true }, api.ErrNode},
		{"a level that no pointer has", "f", 2, func(level int) (int, bool) { return 1 << 30, true }, api.ErrArg},
		{"a number of levels that there is not", "f", -1, func(level int) (int, bool) { return level, true }, api.ErrArg},
		{"no file", "no", 2, func(level int) (int, bool) { return level, true }, api.ErrNoFile},
		{"another kind", "raw", 2, func(level int) (int, bool) { return level, true }, api.ErrKind},
	} {
		b.Is(c.what, passage.Relabel(b.Desk, c.file, c.vars, c.goal, "out"), c.want)
		b.AsBefore(c.what)
	}
	b.Is("a root that is none", passage.Write(b.Desk, 2, func(*nodes.Builder) (api.Ptr, api.Errno) { return 7, api.OK }, "out"), api.ErrRoot)
	b.AsBefore("a root that is none")
	b.Is("what add tells", passage.Write(b.Desk, 2, func(*nodes.Builder) (api.Ptr, api.Errno) { return 0, api.ErrMany }, "out"), api.ErrMany)
	b.AsBefore("what add tells")
	b.Is("a file that is there", doubled(b.Desk, "f", 4), api.OK)
	was := b.Disk().State()
	b.Is("a file that is there", doubled(b.Desk, "f", 4), api.ErrExists)
	b.Was = was
	b.AsBefore("a file that is there")
}

// TestTroublesOfRelabel: a fault, or the power off, at each call; a full disk.
func TestTroublesOfRelabel(t *testing.T) {
	p := bench.Plot{What: "Relabel", K: 1, Tapes: bench.Files(and()), Makes: []bench.Strip{{Name: "out", Kind: api.KindNodes, List: bench.Spread(and(), 4, []int{0, 2})}}, Do: func(k *tape.Desk) api.Errno {
		e := doubled(k, "f", 4)
		if !k.Disk().On() {
			return api.ErrOff
		}
		return e
	}}
	bench.EachCall(t, []bench.Plot{p})
	bench.FullDisk(t, []bench.Plot{p})
	bench.BadBlocks(t, []bench.Plot{p})
}
