package pqueue_test

import (
	"math"
	"testing"

	"strata/api"
	"strata/disk"
	"strata/pqueue"
	"strata/purse"
	"strata/tape"
)

// choice is a value that New is given, and what it is refused with for that.
type choice[T any] struct {
	v T
	e api.Errno
}

// TestRefusalsInOrder: whatever is wrong together, the first of them is told. K is 2. P6.1, G5, G6.
func TestRefusalsInOrder(t *testing.T) {
	orders := []choice[api.Order]{{plain, 0}, {api.Order{3, 1, 0, 2}, 0}, {api.Order{0, 1, 2, 2}, api.ErrOrder}, {api.Order{0, 1, 2, 4}, api.ErrOrder}, {api.Order{-1, 1, 2, 3}, api.ErrOrder}, {api.Order{}, api.ErrOrder}, {api.Order{math.MaxInt, math.MinInt, 0, 1}, api.ErrOrder}}
	shares := []choice[int]{{16, 0}, {15, api.ErrShare}, {8, api.ErrShare}, {0, api.ErrShare}, {-16, api.ErrShare}, {math.MinInt, api.ErrShare}, {math.MaxInt, api.ErrBudget}}
	for _, free := range []choice[int]{{16, 0}, {15, api.ErrBudget}, {0, api.ErrBudget}} {
		for _, power := range []choice[bool]{{true, 0}, {false, api.ErrOff}} {
			b := mount(t, 96, free.v, api.Trouble{At: 0, Kind: api.TrCut})
			if !power.v {
				b.Disk().Create("cut")
			}
			counts := b.Disk().Counts()
			for _, o := range orders {
				for _, share := range shares {
					want := api.OK
					for _, e := range []api.Errno{o.e, share.e, power.e, free.e} {
						if e == api.ErrBudget && power.e != api.OK && o.e == api.OK {
							e = power.e // a share that is too great is told behind the power
						}
						if want == api.OK {
							want = e
						}
					}
					q, e := pqueue.New(b.Desk, o.v, share.v)
					if e != want || (q == nil) != (e != api.OK) {
						t.Fatalf("New(%v, %d), %d free, power %v: %d, want %d", o.v, share.v, free.v, power.v, e, want)
					}
					if e == api.OK {
						b.out(share.v, share.v)
						if q.Len() != 0 || q.Close() != api.OK {
							t.Fatal("it is not empty, or cannot be closed")
						}
					}
					if q, e := pqueue.New(nil, o.v, share.v); q != nil || e != api.ErrArg {
						t.Fatalf("New at no desk: %d", e)
					}
				}
			}
			if b.Disk().Counts() != counts {
				t.Error("New has asked the disk for something")
			}
			b.asBefore(free)
		}
	}
}

// TestLeastShare: 8K, and one less; all of it is enough for many records. P6.1, P6.7.
func TestLeastShare(t *testing.T) {
	for _, k := range []int{1, 2, 3, 31, 2047} {
		b := mount(t, 32*(k+1), 8*k)
		if q, e := pqueue.New(b.Desk, plain, 8*k-1); q != nil || e != api.ErrShare {
			t.Fatalf("K %d: %d", k, e)
		}
		b.asBefore(k)
		x := b.queue(plain, 8*k)
		for i := range 70 * k {
			if e := x.Push(first(i * 7919 % (70 * k))); e != api.OK {
				t.Fatalf("K %d: Push: %d", k, e)
			}
		}
		for i := range 70 * k {
			if r, e := x.Pop(); r != first(i) || e != api.OK {
				t.Fatalf("K %d: Pop %d: %v, %d", k, i, r, e)
			}
		}
		b.out(k, 8*k)
		if peak := b.Purse().Peak(); peak != b.hand+8*k {
			t.Errorf("K %d: peak %d", k, peak)
		}
		x.close(k)
	}
}

// TestGreatShare: a share that no memory has. G1.
func TestGreatShare(t *testing.T) {
	for _, size := range []int{64, 96, 65536} {
		d, _ := disk.New(api.Setup{Block: size, Blocks: 10})
		p, _ := purse.New(math.MaxInt)
		k, _ := tape.NewDesk(d, p)
		q, e := pqueue.New(k, plain, math.MaxInt)
		if e != api.OK || p.Free() != 0 {
			t.Fatalf("New: %d, %d free", e, p.Free())
		}
		for i := range 5000 {
			if e := q.Push(first(5000 - i)); e != api.OK {
				t.Fatalf("Push: %d", e)
			}
		}
		for i := range 5000 {
			if r, e := q.Pop(); r != first(i+1) || e != api.OK {
				t.Fatalf("Pop: %v, %d", r, e)
			}
		}
		if e := q.Close(); e != api.OK || p.Used() != 0 {
			t.Errorf("Close: %d, %d out", e, p.Used())
		}
	}
}

// TestParts: a desk over a part, all of which is the share; and over a part that is closed. P6.1, G6.
func TestParts(t *testing.T) {
	b := mount(t, 64, 20)
	part, _ := b.Purse().Part(8)
	k, _ := tape.NewDesk(b.Disk(), part)
	q, e := pqueue.New(k, plain, 8)
	if e != api.OK || part.Used() != 8 {
		t.Fatalf("New: %d, %d out", e, part.Used())
	}
	for i := range 100 {
		if e := q.Push(first(100 - i)); e != api.OK {
			t.Fatalf("Push: %d", e)
		}
	}
	if e := part.Close(); e != api.ErrGive {
		t.Errorf("the part is closed below the queue: %d", e)
	}
	if r, e := q.Pop(); r != first(1) || e != api.OK {
		t.Errorf("Pop: %v, %d", r, e)
	}
	if e := q.Close(); e != api.OK || part.Used() != 0 || part.Peak() != 8 {
		t.Errorf("Close: %d, %d out", e, part.Used())
	}
	if e := part.Close(); e != api.OK {
		t.Errorf("Close of the part: %d", e)
	}
	if q, e := pqueue.New(k, plain, 8); q != nil || e != api.ErrBudget {
		t.Errorf("New at a closed part: %d", e)
	}
	b.asBefore("parts")
}

// TestWithoutPower: what is in memory is still answered, since the disk is not asked; Close tells of the power also where there are no temporaries. P6.6, P6.9.
func TestWithoutPower(t *testing.T) {
	b := mount(t, 64, 8, api.Trouble{At: 0, Kind: api.TrCut})
	x := b.queue(plain, 8)
	x.do(step{push, first(2)})
	x.do(step{push, first(1)})
	b.Disk().Create("cut")
	x.do(step{kind: peek})
	x.do(step{kind: pop})
	if e := x.Close(); e != api.ErrOff || x.Len() != 1 {
		t.Errorf("Close: %d, Len %d", e, x.Len())
	}
	b.asBefore("no power")
	if e := x.Close(); e != api.ErrDone {
		t.Errorf("Close again: %d", e)
	}
}
