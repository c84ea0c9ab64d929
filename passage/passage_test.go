package passage_test

import (
	"slices"
	"testing"

	"strata/api"
	"strata/bench"
	"strata/passage"
	"strata/sweep"
	"strata/tape"
)

// and is the node file of "level 0 and level 1".
func and() []api.Rec { return bench.Canon(2, bench.Number(2, 8)) }

// swap is a passage over the file f, whose two levels are changed with one another; what is kept of it is the name of its arcs.
func swap(k *tape.Desk, names *[]string) api.Errno {
	return passage.Through(k, func(arcs string) api.Errno {
		*names = append(*names, arcs)
		return sweep.Swap(k, "f", 0, arcs)
	}, "out")
}

// TestThrough: it makes the one file, time and again; its arcs have names that no file has, those of tapes that were left among them.
func TestThrough(t *testing.T) {
	b := bench.Lie(t, 1, bench.Files(and())...)
	var names []string
	for range 5 {
		b.Is("Through", swap(b.Desk, &names), api.OK)
		b.Made("Through", bench.Strip{Name: "out", Kind: api.KindNodes, List: and()})
		b.Disk().Delete("out")
	}
	for i, name := range names {
		if name == "tmp-2" || name == "tmp-5" || slices.Contains(names[:i], name) {
			t.Errorf("the names are %v", names)
		}
	}
}

// TestRefused: what the sweep or the reduction is refused is told, and nothing is left.
func TestRefused(t *testing.T) {
	b := bench.Lie(t, 1, bench.Files(and())...)
	b.Is("a sweep that makes nothing", passage.Through(b.Desk, func(string) api.Errno { return api.OK }, "out"), api.ErrNoFile)
	b.AsBefore("a sweep that makes nothing")
	b.Is("a sweep that is refused", passage.Through(b.Desk, func(arcs string) api.Errno { return sweep.Swap(b.Desk, "f", 1, arcs) }, "out"), api.ErrLevel)
	b.AsBefore("a sweep that is refused")
	var names []string
	b.Disk().Create("out")
	b.Is("a file that is there", swap(b.Desk, &names), api.ErrExists)
	b.Disk().Delete("out")
	b.AsBefore("a file that is there")
}

// TestTroubles: a fault, or the power off, at each call; a full disk. (That power which goes off with the last Delete is told, whoever calls sees to.)
func TestTroubles(t *testing.T) {
	p := bench.Plot{What: "Through", K: 1, Tapes: bench.Files(and()), Makes: []bench.Strip{{Name: "out", Kind: api.KindNodes, List: and()}}, Do: func(k *tape.Desk) api.Errno {
		var names []string
		e := swap(k, &names)
		if !k.Disk().On() {
			return api.ErrOff
		}
		return e
	}}
	bench.EachCall(t, []bench.Plot{p})
	bench.BehindAFault(t, 1, []bench.Plot{p})
	bench.FullDisk(t, []bench.Plot{p})
}
