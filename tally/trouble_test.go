package tally_test

import (
	"slices"
	"testing"

	"strata/api"
	"strata/bench"
	"strata/tally"
	"strata/tape"
)

// bad is told where a call answers another thing than it should, with OK.
const bad = api.Errno(-1)

// plotsOf are all whole operations over the file of a function.
func plotsOf(k, n int, table []bool, turns []int) []bench.Plot {
	x := factsOf(n, table, turns)
	tapes := bench.Files(bench.Canon(n, table))
	var out []bench.Plot
	add := func(what string, do func(d *tape.Desk) (bool, api.Errno)) {
		out = append(out, bench.Plot{What: what, K: k, Tapes: tapes, Do: func(d *tape.Desk) api.Errno {
			right, e := do(d)
			if e == api.OK && !right {
				return bad
			}
			return e
		}})
	}
	add("Count", func(d *tape.Desk) (bool, api.Errno) {
		n, e := tally.Count(d, "f")
		return e == api.OK && n.Cmp(x.count) == 0, e
	})
	add("Paths", func(d *tape.Desk) (bool, api.Errno) {
		n, e := tally.Paths(d, "f")
		return e == api.OK && n.Cmp(x.paths) == 0, e
	})
	add("Density", func(d *tape.Desk) (bool, api.Errno) {
		y, e := tally.Density(d, "f")
		return y == x.density, e
	})
	add("Amplitude", func(d *tape.Desk) (bool, api.Errno) {
		z, e := tally.Amplitude(d, "f", turns)
		return z == x.sum, e
	})
	add("Support", func(d *tape.Desk) (bool, api.Errno) {
		l, e := tally.Support(d, "f")
		return slices.Equal(l, x.support), e
	})
	add("First", func(d *tape.Desk) (bool, api.Errno) {
		l, e := tally.First(d, "f")
		return slices.Equal(l, x.first), e
	})
	return out
}

// plots are calls that need no temporaries, and such as do: the numbers on their way are more than the purse holds.
func plots() []bench.Plot {
	r := bench.Dice(20)
	out := plotsOf(1, 4, r.Table(4), anyTurns(&r, 4))
	out = append(out, plotsOf(3, 5, r.Table(5), anyTurns(&r, 5))...)
	out = append(out, plotsOf(2, 0, []bool{true}, nil)...)
	return append(out, plotsOf(1, 10, r.Table(10), anyTurns(&r, 10))...)
}

// TestTroubleAtEachCall: a fault, or the power off, at each numbered call. P11.1 to P11.6, G7.
func TestTroubleAtEachCall(t *testing.T) {
	for _, p := range plots() {
		t.Run(p.What, func(t *testing.T) {
			t.Parallel()
			bench.EachCall(t, []bench.Plot{p})
		})
	}
}

// TestBehindAFault: from the first refusal on nothing is asked but Deletes. G7.
func TestBehindAFault(t *testing.T) {
	t.Parallel()
	bench.BehindAFault(t, 13, plots())
}

// TestFullDisk: each number of free blocks from none to enough. G7.
func TestFullDisk(t *testing.T) {
	t.Parallel()
	bench.FullDisk(t, plots())
	for _, p := range plots() { // a full disk is none where nothing is put by
		if p.K > 1 || p.What == "Support" || p.What == "First" {
			if e := p.Try(bench.MountSmall(t, bench.Holds(t, p.K, p.Tapes...), api.LeastK*p.K, 0)); e != api.OK {
				t.Errorf("%s: %d", p.What, e)
			}
		}
	}
}

// TestBadBlocks: each block of the file spoilt, of another kind, or none. G8.
func TestBadBlocks(t *testing.T) {
	t.Parallel()
	for i, told := range bench.BadBlocks(t, plots()) {
		if first := i%6 == 5; told[api.OK] > 0 && !first { // First alone needs not all blocks
			t.Errorf("plot %d: %v", i, told)
		}
	}
}

// TestEachBit: each bit of each block of a small file turned: the right answer, or ErrSpoilt. G8.
func TestEachBit(t *testing.T) {
	t.Parallel()
	const n = 3
	table := bench.Number(n, 0xEA)
	list := bench.Canon(n, table)
	for _, k := range []int{1, 3} {
		was := bench.Holds(t, k, bench.Files(list)...)
		for i := range (len(list) + k - 1) / k {
			for bit := range 8 * was.Block {
				b := bench.Mount(t, was, api.LeastK*k)
				b.Disk().Spoil("f", i, bit)
				b.Was = b.Disk().State()
				for _, p := range plotsOf(k, n, table, []int{1, 2, 3}) {
					if e := p.Try(b); e != api.ErrSpoilt && (e != api.OK || p.What != "First") {
						t.Fatalf("K %d, block %d, bit %d: %s: %d", k, i, bit, p.What, e)
					}
				}
				spoiltCubes(t, b, cubesOf(table, n))
			}
		}
	}
}

// spoiltCubes goes through Cubes of a file with a spoilt block: the texts ahead of it are right, and then it is told.
func spoiltCubes(t *testing.T, b bench.Bench, want []string) {
	t.Helper()
	if told := halt(t, b, want); told != api.OK && told != api.ErrSpoilt {
		t.Fatalf("Cubes: %d", told)
	}
	b.AsBefore("Cubes")
}

// halt goes through Cubes up to a refusal; the texts ahead of it must be right, and all of them there if there is none.
func halt(t *testing.T, b bench.Bench, want []string) api.Errno {
	t.Helper()
	told, times := api.OK, 0
	for text, e := range tally.Cubes(b.Desk, "f") {
		switch {
		case told != api.OK:
			t.Fatalf("%q, %d behind a refusal", text, e)
		case e != api.OK:
			told = e
			if text != "" {
				t.Fatalf("%q beside %d", text, e)
			}
		case times == len(want) || text != want[times]:
			t.Fatalf("%q is text %d of %q", text, times, want)
		default:
			times++
		}
	}
	if told == api.OK && times < len(want) {
		t.Fatalf("%d texts of %d", times, len(want))
	}
	return told
}

// TestCubesInTrouble: a fault, or the power off, at each numbered call: the texts ahead of it are given, then the refusal, and the pass ends; a full disk is none. P11.7.
func TestCubesInTrouble(t *testing.T) {
	t.Parallel()
	r := bench.Dice(22)
	for _, c := range []struct{ k, n int }{{1, 4}, {3, 5}, {1, 0}, {2, 7}} {
		table := r.Table(c.n)
		table[r.Below(len(table))] = true
		want := cubesOf(table, c.n)
		was := bench.Holds(t, c.k, bench.Files(bench.Canon(c.n, table))...)
		calm := bench.MountSmall(t, was, c.k, 0)
		calm.Is("calm", halt(t, calm, want), api.OK)
		calm.AsBefore("calm")
		counts := calm.Disk().Counts()
		if counts.Calls != counts.Reads {
			t.Errorf("it has asked for %+v", counts)
		}
		for at := range counts.Calls {
			for kind, told := range map[int]api.Errno{api.TrFault: api.ErrFault, api.TrCut: api.ErrOff} {
				b := bench.Mount(t, was, c.k, api.Trouble{At: at, Kind: kind})
				b.Is([]any{c, at, kind}, halt(t, b, want), told)
				b.AsBefore(at)
				if n := b.Disk().Counts().Calls; n != at+1 {
					t.Errorf("%d calls, though call %d was refused", n, at)
				}
			}
		}
	}
}
