package pqueue_test

import (
	"testing"

	"strata/api"
)

// wave pushes some records and pops some, again and again; each record comes from the number of pushes and what was popped last.
type wave struct {
	what       string
	push, pop  int
	next       func(r *dice, i int, last uint64) uint64
	rounds     int
	leastReads int // of a queue with blocks of one record and a share of 8; a wave that needs no disk tries nothing
}

func waves() []wave {
	rising := func(_ *dice, i int, _ uint64) uint64 { return uint64(i) }
	falling := func(_ *dice, i int, last uint64) uint64 { return last + 1<<30 - uint64(i) }
	near := func(r *dice, _ int, last uint64) uint64 { return last + uint64(r.below(20)) }
	far := func(r *dice, i int, last uint64) uint64 {
		if i%2 == 0 {
			return last // is popped at once
		}
		return 1<<40 + uint64(r.below(1000))
	}
	return []wave{
		{"all pushed, rising", 4000, 4000, rising, 1, 4000},
		{"all pushed, falling", 4000, 4000, falling, 1, 4000},
		{"pushed alone", 4000, 0, near, 1, 4000},
		{"nine for one", 9, 1, near, 400, 3000},
		{"two for one", 2, 1, near, 1500, 1500},
		{"hundred for ninety-nine", 100, 99, near, 40, 2000},
		{"hundred for hundred", 100, 100, falling, 40, 2000},
		{"as many as the memory, all popped but one", 4, 3, falling, 900, 500},
		{"half of them are popped at once", 2, 1, far, 2000, 2000},
		{"a dozen of which six are popped at once", 12, 6, far, 300, 1500},
	}
}

// TestNotGreedy: waves at small shares, where the bounds are narrow, and at greater ones. P6.10, P6.11, W4.
func TestNotGreedy(t *testing.T) {
	for _, w := range waves() {
		for _, c := range []struct{ k, share int }{{1, 8}, {1, 9}, {1, 40}, {2, 16}, {2, 17}, {3, 26}, {7, 56}, {7, 63}, {30, 240}} {
			x := mount(t, 32*(c.k+1), c.share).queue(plain, c.share)
			r := dice(3)
			for round := range w.rounds {
				for i := range w.push {
					last := uint64(0)
					if len(x.last) > 0 {
						last = x.last[0][0]
					}
					if e := x.do(step{push, api.Rec{w.next(&r, round*w.push+i, last), 0, 0, uint64(round)}}); e != api.OK {
						t.Fatalf("%s: Push: %d", w.what, e)
					}
				}
				for range w.pop {
					x.do(step{kind: pop})
				}
			}
			if n := x.Disk().Counts(); c.share == 8 && n.Reads < w.leastReads {
				t.Errorf("%s: %d reads", w.what, n.Reads)
			}
			x.close(w.what)
		}
	}
}

// TestAThousandShares: what is written grows with the records, not with their square. (The document allows as much as that; a queue that merged all its runs each time would write ten times as much.)
func TestAThousandShares(t *testing.T) {
	x := mount(t, 64, 8).queue(plain, 8)
	for i := range 8000 {
		if e := x.do(step{push, first(i * 4001 % 8000)}); e != api.OK {
			t.Fatal(e)
		}
	}
	if n := x.Disk().Counts().Appends; n > 25*8000 {
		t.Errorf("%d appends", n)
	}
	x.drain()
	x.close("a thousand shares")
}

// TestFilesGo: what has been popped does not stay on the disk. P6.10.
func TestFilesGo(t *testing.T) {
	x := mount(t, 96, 16).queue(plain, 16)
	for i := range 3000 {
		x.do(step{push, first(i)})
		if i%200 == 199 {
			x.drain()
		}
	}
	if most := x.Disk().Counts().Most - x.start.Used; most > 4*200/2+8 {
		t.Errorf("%d blocks, and never more than 200 records", most)
	}
	x.close("files go")
}

// TestAllIsWithinTheShare: nothing is popped, so what is in no file is in memory; beside that the queue holds a block of each file. G10.
func TestAllIsWithinTheShare(t *testing.T) {
	for _, c := range []struct{ k, share int }{{1, 8}, {2, 16}, {2, 23}, {3, 24}, {3, 50}} {
		x := mount(t, 32*(c.k+1), c.share+c.k).queue(plain, c.share)
		full := 0
		for i := range 20 * c.share {
			if e := x.Push(first(i * 7919 % 1000)); e != api.OK {
				t.Fatal(e)
			}
			held := x.Len()
			for _, f := range x.own() {
				n, e := x.Size(f.Name, api.KindRaw)
				if e != api.OK {
					t.Fatalf("Size: %d", e)
				}
				held += c.k - n
			}
			if held > c.share {
				t.Fatalf("%+v: behind %d records %d are held", c, i+1, held)
			}
			full = max(full, held)
		}
		if full < c.share-c.k {
			t.Errorf("%+v: at most %d are held", c, full)
		}
	}
}
