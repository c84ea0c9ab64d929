package tally

import (
	"math/big"
	"testing"

	"strata/api"
	"strata/bench"
)

// watch reckons as assignments do, and looks meanwhile at what a descent holds.
type watch struct {
	assignments
	look func()
}

func (w watch) along(a *big.Int, from int, high bool, to int) *big.Int {
	w.look()
	return w.assignments.along(a, from, high, to)
}

// TestHeldIsOutOfThePurse: never are more numbers held than records are out for them; and there is use for all of them, and for the queue. G10.
func TestHeldIsOutOfThePurse(t *testing.T) {
	r := bench.Dice(70)
	const n = 12
	for _, k := range []int{1, 2} {
		b := bench.Lie(t, k, bench.Files(bench.Canon(n, r.Table(n)))...)
		end, e := begin(b.Desk, "f")
		b.Is("begin", e, api.OK)
		d := &descent[*big.Int]{desk: b.Desk, vars: end.Vars, sum: new(big.Int), held: map[api.Ptr]*big.Int{}}
		held, waiting := 0, 0
		d.by = watch{look: func() {
			held, waiting = max(held, len(d.held)), max(waiting, d.queue.Len())
			if out := b.Purse().Used() - b.Hand; len(d.held) > d.room || out > api.LeastK*k || d.room > out-(1+api.LeastPq)*k {
				t.Fatalf("%d numbers are held, in a room for %d; %d records are out", len(d.held), d.room, out)
			}
		}}
		b.Is("run", d.run("f", end.Root), api.OK)
		b.AsBefore("run")
		if held != d.room || waiting == 0 {
			t.Errorf("at most %d numbers were held, in a room for %d, and %d waited", held, d.room, waiting)
		}
	}
}

// TestShareOut: the room for numbers is out of the purse beside the queue's share, whatever is free. G10.
func TestShareOut(t *testing.T) {
	for _, free := range []int{63, 64, 65, 1000, 1 << 40} {
		b := bench.Mount(t, bench.Holds(t, 1), free)
		d := &descent[*big.Int]{desk: b.Desk}
		b.Is(free, d.shareOut(), api.OK)
		if out := b.Purse().Used() - b.Hand; out != free {
			t.Errorf("%d are free, %d are out", free, out)
		}
		d.queue.Close()
		if out := b.Purse().Used() - b.Hand; out != d.room || out < free/3 {
			t.Errorf("%d are free, %d are out for %d numbers", free, out, d.room)
		}
		d.giveBack()
		b.AsBefore(free)
	}
}

// TestParts: a number is the sum of its parts, which rise; those of 0 are left out.
func TestParts(t *testing.T) {
	r := bench.Dice(71)
	for range 300 {
		a := new(big.Int)
		for range r.Below(9) {
			a.Lsh(a, uint(1+r.Below(200))).SetBit(a, 0, uint(r.Below(2)))
		}
		by := assignments{}
		sum, last, parts := by.zero(), -1, 0
		for rec := range by.parts(a, 7) {
			if rec[0] != 7 || int(rec[1]) <= last || rec[2]|rec[3] == 0 {
				t.Fatalf("%x: %x", a, rec)
			}
			last = int(rec[1])
			sum = by.plus(sum, by.part(rec))
			parts++
		}
		if sum.Cmp(a) != 0 || parts > (a.BitLen()+127)/128 {
			t.Fatalf("%x: the %d parts are %x", a, parts, sum)
		}
	}
}

// TestTurned: by it, pointers rise as a cursor goes down.
func TestTurned(t *testing.T) {
	last := uint64(0)
	for i, p := range []api.Ptr{bench.At(0, api.MaxId), bench.At(0, 9), bench.At(0, 0), bench.At(1, api.MaxId), bench.At(1, 1), bench.At(1, 0), bench.At(api.MaxVars-1, 0)} {
		if now := turned(p); i > 0 && now <= last {
			t.Errorf("%x: %x behind %x", p, now, last)
		}
		last = turned(p)
	}
}
