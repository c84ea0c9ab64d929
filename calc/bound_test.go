package calc_test

import (
	"testing"

	"strata/api"
	"strata/bench"
	"strata/calc"
)

// TestRoom: with as many blocks free as W4 says Not, Apply, Ite and Restrict are never refused for room, whatever the blocks and the budget. W4.
func TestRoom(t *testing.T) {
	r := bench.Dice(30)
	for n := range 8 {
		x := anyTrio(&r, n)
		for _, c := range []struct{ k, free int }{{1, 64}, {1, 150}, {1, 3000}, {2, 128}, {5, 700}} {
			was := bench.Holds(t, c.k, x.tapes()...)
			for _, d := range x.deeds(&r) {
				if d.product > 0 {
					run(bench.MountSmall(t, was, c.free, 1000+100*d.product), d)
				}
			}
		}
	}
}

// TestRoomOfLargeFiles: the same, where the blocks that are not counted by nodes do not matter any more. W4.
func TestRoomOfLargeFiles(t *testing.T) {
	r := bench.Dice(31)
	const n = 12
	x := anyTrio(&r, n)
	was := bench.Holds(t, 1, x.tapes()...)
	for _, d := range []deed{x.not(0), x.restrict(0, nil), x.restrict(0, r.Lits(n, 3)), x.restrict(0, []api.Lit{{Level: 0}, {Level: 1}})} {
		b := bench.MountSmall(t, was, 64, 1000+100*d.product)
		run(b, d)
		if most := b.Disk().Counts().Most - bench.BlocksIn(was); most > 20*x.size(0) {
			t.Errorf("%s: %d blocks for %d nodes", d.what, most, x.size(0))
		}
	}
}

// TestNoMoreThanThePurse: what a call takes out is within what is free, and so much that it uses it; behind it all is back. P10.2, G10.
func TestNoMoreThanThePurse(t *testing.T) {
	r := bench.Dice(32)
	x := anyTrio(&r, 7)
	for _, k := range []int{1, 2, 9, 100} {
		was := bench.Holds(t, k, x.tapes()...)
		for _, d := range x.deeds(&r) {
			b := bench.Mount(t, was, api.LeastK*k)
			run(b, d)
			if peak := b.Purse().Peak() - b.Hand; peak < k || peak > api.LeastK*k {
				t.Errorf("K %d: %s: peak %d", k, d.what, peak)
			}
		}
	}
}

// TestWhatWaitsIsOnTheDisk: levels have many times the nodes that the purse holds, so all but that must be on the disk meanwhile. G10.
func TestWhatWaitsIsOnTheDisk(t *testing.T) {
	t.Parallel()
	r := bench.Dice(33)
	const n = 12
	x := anyTrio(&r, n)
	was := bench.Holds(t, 1, x.tapes()...)
	for _, d := range []deed{x.not(0), x.apply(api.OpXor, 0, 1), x.ite(2, 0, 1), x.restrict(0, []api.Lit{{Level: 0}}), x.quantify(0, []int{11}, true), x.compose(0, 11, 1), x.rename(0, []int{0, 1, 2, 3, 4, 5, 6, 7, 8, 9, 11, 10})} {
		wide := 0
		list := d.makes("out").List
		for l := range n {
			wide = max(wide, bench.Width(list, l))
		}
		if wide < 100 {
			t.Fatalf("%s: the widest level has %d nodes", d.what, wide)
		}
		b := bench.Mount(t, was, 64)
		run(b, d)
		if used := b.Disk().Counts().Most - bench.BlocksIn(was); used < wide-64 {
			t.Errorf("%s: at most %d blocks are used, where %d nodes wait", d.what, used, wide)
		}
	}
}

// TestManySteps: what goes through many steps has not the files of all of them on the disk at once, but of a few.
func TestManySteps(t *testing.T) {
	const n = 60
	var lits []api.Lit
	var levels, down []int
	for l := range n {
		lits = append(lits, api.Lit{Level: l, Value: true})
		levels = append(levels, l)
		down = append(down, n-1-l)
	}
	b := bench.Lie(t, 1)
	b.Is("Cube", calc.Cube(b.Desk, n, lits, "f"), api.OK)
	was := b.Disk().State()
	for what, do := range map[string]func(b bench.Bench) api.Errno{
		"Exists": func(b bench.Bench) api.Errno { return calc.Exists(b.Desk, "f", levels[1:], "out") },
		"Forall": func(b bench.Bench) api.Errno { return calc.Forall(b.Desk, "f", levels[1:], "out") },
		"Rename": func(b bench.Bench) api.Errno { return calc.Rename(b.Desk, "f", down, "out") },
	} {
		b := bench.MountSmall(t, was, 64, 20*n)
		b.Is(what, do(b), api.OK)
		b.Stays(what)
	}
}

// TestLevelsThatCostNothing: those that f does not hang on may be quantified by the thousand. P10.5.
func TestLevelsThatCostNothing(t *testing.T) {
	b := bench.Lie(t, 1)
	b.Is("Cube", calc.Cube(b.Desk, most, []api.Lit{{Level: 7}, {Level: 9000, Value: true}}, "f"), api.OK)
	calls := func(levels ...int) int {
		ahead := b.Disk().Counts().Calls
		b.Is("Exists", calc.Exists(b.Desk, "f", levels, "out"), api.OK)
		b.Disk().Delete("out")
		return b.Disk().Counts().Calls - ahead
	}
	var all []int
	for l := range most {
		all = append(all, l)
	}
	if few, many := calls(7, 9000), calls(all...); many != few {
		t.Errorf("%d calls for two levels, %d for all", few, many)
	}
}

// TestLevelsAreMovedAtOnce: where the order of the levels stays, Rename goes over the file and no more, however many they are.
func TestLevelsAreMovedAtOnce(t *testing.T) {
	const n = 40
	var lits []api.Lit
	to := make([]int, 2*n)
	for l := range n {
		lits = append(lits, api.Lit{Level: l, Value: l%3 > 0})
		to[l] = 2*l + 1
	}
	b := bench.Lie(t, 1)
	b.Is("Cube", calc.Cube(b.Desk, 2*n, lits, "f"), api.OK)
	ahead := b.Disk().Counts()
	b.Is("Rename", calc.Rename(b.Desk, "f", to, "out"), api.OK)
	now := b.Disk().Counts()
	if now.Appends-ahead.Appends != n+1 || now.Reads-ahead.Reads > 2*n+10 {
		t.Errorf("%+v, then %+v", ahead, now)
	}
}
