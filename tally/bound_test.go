package tally_test

import (
	"testing"

	"strata/api"
	"strata/bench"
	"strata/tally"
)

// TestNoMoreThanThePurse: what a call takes out is within what is free; behind it all is back. G10.
func TestNoMoreThanThePurse(t *testing.T) {
	r := bench.Dice(32)
	const n = 7
	list := bench.Canon(n, r.Table(n))
	for _, k := range []int{1, 2, 9, 100} {
		was := bench.Holds(t, k, bench.Files(list)...)
		for _, free := range []int{64 * k, 64*k + 1, 1000 * k} {
			for _, c := range asks(n) {
				b := bench.Mount(t, was, free)
				_, e := c.do(b.Desk, "f")
				b.Is(c.what, e, api.OK)
				b.AsBefore(c.what)
				if peak := b.Purse().Peak() - b.Hand; peak < k || peak > free {
					t.Errorf("K %d: %s: peak %d of %d", k, c.what, peak, free)
				}
			}
			b := bench.Mount(t, was, free)
			cubes(b, "f")
			if peak := b.Purse().Peak() - b.Hand; peak != k {
				t.Errorf("K %d: Cubes: peak %d", k, peak)
			}
		}
	}
}

// TestWhatWaitsIsOnTheDisk: a level has many times the nodes that the purse holds, so the numbers for all but so many must be on the disk meanwhile; what needs no numbers puts nothing there. G10.
func TestWhatWaitsIsOnTheDisk(t *testing.T) {
	t.Parallel()
	r := bench.Dice(33)
	const n, least = 12, 64
	list := bench.Canon(n, r.Table(n))
	wide := 0
	for l := range n {
		wide = max(wide, bench.Width(list, l))
	}
	if wide < 3*least {
		t.Fatalf("the widest level has %d nodes", wide)
	}
	was := bench.Holds(t, 1, bench.Files(list)...)
	for i, c := range asks(n) {
		b := bench.Mount(t, was, least)
		_, e := c.do(b.Desk, "f")
		b.Is(c.what, e, api.OK)
		b.AsBefore(c.what)
		counts := b.Disk().Counts()
		most := counts.Most - bench.BlocksIn(was)
		if i < 4 && most < wide-least {
			t.Errorf("%s: at most %d blocks are used, where %d numbers wait", c.what, most, wide)
		}
		if i >= 4 && counts.Appends > 0 {
			t.Errorf("%s: %+v", c.what, counts)
		}
	}
}

// TestWithinThePurse: what there is room for is not put on the disk. W4 asks no more of tally, but it is what a purse is for.
func TestWithinThePurse(t *testing.T) {
	r := bench.Dice(34)
	const n = 9
	was := bench.Holds(t, 1, bench.Files(bench.Canon(n, r.Table(n)))...)
	for _, c := range asks(n) {
		b := bench.MountSmall(t, was, 1000, 0)
		_, e := c.do(b.Desk, "f")
		b.Is(c.what, e, api.OK)
		b.AsBefore(c.what)
	}
}

// TestReads: First reads no more than a way down, Support the file and its end.
func TestReads(t *testing.T) {
	r := bench.Dice(35)
	const n = 8
	list := bench.Canon(n, r.Table(n))
	b := bench.Lie(t, 1, bench.Files(list)...)
	for range 2 {
		ahead := b.Disk().Counts().Reads
		if _, e := tally.Support(b.Desk, "f"); e != api.OK {
			t.Fatal(e)
		}
		if _, e := tally.First(b.Desk, "f"); e != api.OK {
			t.Fatal(e)
		}
		if reads := b.Disk().Counts().Reads - ahead; reads > 2*(len(list)+4) {
			t.Errorf("%d reads of %d blocks", reads, len(list))
		}
	}
}
