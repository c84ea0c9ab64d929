package turn_test

import (
	"math/bits"
	"testing"

	"strata/api"
	"strata/bench"
	"strata/tape"
	"strata/turn"
)

// TestRoom: with as many blocks free as W4 says Swap is never refused for room, whatever the blocks and the budget. W4.
func TestRoom(t *testing.T) {
	t.Parallel()
	r := bench.Dice(30)
	for n := 2; n < 9; n++ {
		g := anyGroup(&r, n)
		for _, c := range []struct{ k, free int }{{1, 64}, {1, 150}, {1, 3000}, {2, 128}, {5, 700}} {
			was := bench.Holds(t, c.k, g.tapes()...)
			for i, d := range g {
				for l := range n - 1 {
					size := d.nodes() + 2
					swaps(bench.MountSmall(t, was, c.free, 1000+100*size*size), g.files()[i], l, d.swap(l))
				}
			}
		}
	}
}

// TestRoomOfLargeFiles: what Swap needs grows as the file does, not as its square. W4.
func TestRoomOfLargeFiles(t *testing.T) {
	t.Parallel()
	r := bench.Dice(31)
	const n = 12
	d := full(n, r.Table(n))
	was := bench.Holds(t, 1, bench.Files(d.list())...)
	for _, l := range []int{0, 7, 8, 9, 10} {
		b := bench.Mount(t, was, 64)
		swaps(b, "f", l, d.swap(l))
		if most := b.Disk().Counts().Most - bench.BlocksIn(was); most > 20*d.nodes() {
			t.Errorf("Swap(%d): %d blocks for %d nodes", l, most, d.nodes())
		}
	}
}

// run makes a deed and looks at what it answers and makes.
func (d deed) run(b bench.Bench) {
	b.Helper()
	right, e := d.do(b.Desk)
	b.Is(d.what, e, api.OK)
	if !right {
		b.Fatalf("%s: another answer", d.what)
	}
	b.Made(d.what, d.makes...)
}

// TestNoMoreThanThePurse: what a call takes out is within what is free, and it needs no more than the least; behind it all is back. G10.
func TestNoMoreThanThePurse(t *testing.T) {
	t.Parallel()
	r := bench.Dice(32)
	g := group{full(7, r.Table(7)), full(7, r.Thin(7))}
	for _, k := range []int{1, 2, 9, 50} {
		was := bench.Holds(t, k, g.tapes()...)
		for _, d := range g.deeds(&r) {
			b := bench.Mount(t, was, api.LeastK*k)
			d.run(b)
			if peak := b.Purse().Peak() - b.Hand; peak < k || peak > api.LeastK*k {
				t.Errorf("K %d: %s: peak %d", k, d.what, peak)
			}
		}
	}
}

// TestWhatWaitsIsOnTheDisk: levels have many times the nodes that the purse holds, so all but that must be on the disk meanwhile. G10.
func TestWhatWaitsIsOnTheDisk(t *testing.T) {
	t.Parallel()
	r := bench.Dice(33)
	const n = 11
	f := full(n, r.Table(n))
	was := bench.Holds(t, 1, bench.Files(f.list())...)
	from := move(n, 4, 6)
	for what, c := range map[string]struct {
		do   func(k *tape.Desk) api.Errno
		last diagram
	}{
		"Swap":    {func(k *tape.Desk) api.Errno { return turn.Swap(k, "f", 5, "out") }, f.swap(5)},
		"Reorder": {func(k *tape.Desk) api.Errno { return turn.Reorder(k, []string{"f"}, from, []string{"out"}) }, f.reorder(from)},
		"Cost": {func(k *tape.Desk) api.Errno {
			_, e := turn.Cost(k, []string{"f"}, 5)
			return e
		}, f.reorder(move(n, 5, 6))},
	} {
		wide := 0
		for l := range n {
			wide = max(wide, bench.Width(c.last.list(), l))
		}
		if wide < 120 {
			t.Fatalf("%s: the widest level has %d nodes", what, wide)
		}
		b := bench.Mount(t, was, 64)
		b.Is(what, c.do(b.Desk), api.OK)
		if used := b.Disk().Counts().Most - bench.BlocksIn(was); used < wide-64 {
			t.Errorf("%s: at most %d blocks are used, where %d nodes wait", what, used, wide)
		}
	}
}

// TestManySteps: what goes through many steps has not the files of all of them on the disk at once, but of a few.
func TestManySteps(t *testing.T) {
	t.Parallel()
	const n = 40
	list := pairs(n)
	was := bench.Holds(t, 1, bench.Files(list, list)...)
	both := []string{"f", "g"}
	down := make([]int, n)
	for l := range down {
		down[l] = n - 1 - l
	}
	for what, do := range map[string]func(k *tape.Desk) api.Errno{
		"Reorder": func(k *tape.Desk) api.Errno { return turn.Reorder(k, both, down, []string{"p", "q"}) },
		"Cost": func(k *tape.Desk) api.Errno {
			_, e := turn.Cost(k, both, n/2)
			return e
		},
	} {
		b := bench.MountSmall(t, was, 64, 30*n)
		b.Is(what, do(b.Desk), api.OK)
		b.Stays(what)
	}
	moved := []int{2, 1, 0} // Best moves levels of both, again and again
	for l := 3; l < n; l++ {
		moved = append(moved, l)
	}
	b := bench.Mount(t, was, 64)
	b.Is("Reorder", turn.Reorder(b.Desk, both, putIn(moved, 7, 12), []string{"p", "q"}), api.OK)
	b = bench.MountSmall(t, b.Disk().State(), 64, 40*n)
	order, e := turn.Best(b.Desk, []string{"p", "q"})
	b.Is("Best", e, api.OK)
	b.AsBefore("Best")
	costs(b, []string{"p", "q"}, 0, reckoned(b, []string{"p", "q"}, n, 0))
	b.Is("Reorder", turn.Reorder(b.Desk, []string{"p"}, order, []string{"out"}), api.OK)
	if got := len(b.Records("out", api.KindNodes)); got != n+1 {
		t.Errorf("%v: %d records", order, got)
	}
}

// reckoned is Cost by the files that Reorder makes.
func reckoned(b bench.Bench, files []string, n, level int) []int {
	b.Helper()
	out := make([]int, n)
	for p := range out {
		for _, f := range files {
			b.Is("Reorder", turn.Reorder(b.Desk, []string{f}, move(n, level, p), []string{"out"}), api.OK)
			out[p] += len(b.Records("out", api.KindNodes)) - 1
			b.Disk().Delete("out")
		}
	}
	return out
}

// TestLevelsThatCostNothing: a place is tried only where it can make a difference; over many levels that a file does not hang on Cost and Best go no longer way than over few.
func TestLevelsThatCostNothing(t *testing.T) {
	r := bench.Dice(35)
	table := r.Table(4)
	reads := func(n int, levels []int) int {
		d := diagram{n, levels, table}
		b := bench.Lie(t, 1, bench.Files(d.list())...)
		for _, level := range levels {
			costs(b, []string{"f"}, level, group{d}.cost(level))
		}
		return b.Disk().Counts().Reads
	}
	if few, many := reads(4, upTo(4)), reads(64, []int{3, 20, 21, 60}); many != few {
		t.Errorf("%d reads over four levels, %d over 64", few, many)
	}
	b := bench.Lie(t, 1, bench.Files([]api.Rec{bench.End(64, T, 0)})...)
	bests(b, []string{"f"}, upTo(64))
	if n := b.Disk().Counts(); n.Calls != n.Reads {
		t.Errorf("a constant: %+v", n)
	}
}

// TestOneSwapAPlace: from whichever place a level goes out, each other one is come to by one swap. Of a function whose levels are all alike each swap asks for the same.
func TestOneSwapAPlace(t *testing.T) {
	const n = 6
	d := full(n, bench.TableOf(n, func(x int) bool { return bits.OnesCount(uint(x))%2 == 1 }))
	var first int
	for level := range n {
		b := bench.Lie(t, 2, bench.Files(d.list())...)
		costs(b, []string{"f"}, level, group{d}.cost(level))
		calls := b.Disk().Counts().Calls
		if level == 0 {
			first = calls
		}
		if calls != first {
			t.Errorf("from level %d: %d calls, from level 0: %d", level, calls, first)
		}
	}
}
