package sweep

import (
	"cmp"
	"slices"
	"testing"

	"strata/api"
	"strata/disk"
	"strata/purse"
	"strata/tape"
)

// TestManyNodes: no disk holds so many nodes of a level, so the number is handed in. MaxId.
func TestManyNodes(t *testing.T) {
	d, _ := disk.New(api.Setup{Block: 64, Blocks: 9})
	p, _ := purse.New(9)
	k, _ := tape.NewDesk(d, p)
	x := &descent{desk: k}
	x.inner, _ = k.Write("a", api.KindInner)
	for id, want := range map[int]api.Errno{0: api.OK, api.MaxId: api.OK, api.MaxId + 1: api.ErrMany} {
		if e := x.meet(nodesAt(3), id, askerOfSide(5, 1)); e != want {
			t.Errorf("id %d: %d, want %d", id, e, want)
		}
	}
}

// TestPack: a request is packed so that it comes back, and that the records' order is that of the stops, the states, and those who ask.
func TestPack(t *testing.T) {
	pointers := []api.Ptr{0, 1, api.MaxId, 1 << 40, 1<<56 - 1, api.False, api.True, mark(0, 0), mark(0, 1), mark(api.MaxId, 1)}
	askers := []asker{askerOfSide(0, 0), askerOfSide(0, 1), askerOfSide(1<<56-1, 0), askerOfSide(1<<56-1, 1), askerOfPass(0), askerOfPass(1<<56 - 1), nobody}
	stops := []stop{passAt(0), nodesAt(0), passAt(api.MaxVars - 1), nodesAt(api.MaxVars - 1)}
	seed := uint64(1)
	pick := func(n int) int {
		seed = seed*6364136223846793005 + 1442695040888963407
		return int(seed>>33) % n
	}
	any := func() request {
		s := state{pointers[pick(len(pointers))], pointers[pick(len(pointers))], pointers[pick(len(pointers))]}
		return request{fate{stops[pick(len(stops))], s}, askers[pick(len(askers))]}
	}
	for range 20000 {
		a, b := any(), any()
		if pick(2) == 0 {
			b.at = a.at
		}
		for i := range pick(4) {
			b.state[i] = a.state[i]
		}
		if unpack(a.pack()) != a {
			t.Fatalf("%+v comes back as %+v", a, unpack(a.pack()))
		}
		x, y := a.pack(), b.pack()
		want := cmp.Or(cmp.Compare(a.at, b.at), slices.Compare(a.state[:], b.state[:]), cmp.Compare(a.from, b.from))
		if got := slices.Compare(x[:], y[:]); got != want {
			t.Fatalf("%+v and %+v: %d, want %d", a, b, got, want)
		}
	}
	for i, a := range askers {
		if i > 0 && a <= askers[i-1] || a.isPass() != (i == 4 || i == 5) {
			t.Errorf("asker %d: %d", i, a)
		}
	}
}

// TestFatesWithinTheirRoom: no more of them are remembered than there is room for. G10.
func TestFatesWithinTheirRoom(t *testing.T) {
	x := &descent{plan: two(api.OpXor, state{}, "f", "g"), fates: map[state]fate{}, room: 5}
	for i := range 40 {
		for range 2 {
			s := state{api.Ptr(i), api.Ptr(i % 3), unused}
			if f := x.fateOf(s); f != (fate{nodesAt(0), s}) || len(x.fates) != min(i+1, 5) {
				t.Fatalf("%v: %v, %d are remembered", s, f, len(x.fates))
			}
		}
	}
}

// TestSharesAreTheWholePurse: all that is free is dealt out, the fates and what is in hand are counted as the queues are. G10.
func TestSharesAreTheWholePurse(t *testing.T) {
	for _, k := range []int{1, 2, 100} {
		for _, more := range []int{0, 1, 3, 1000} {
			d, _ := disk.New(api.Setup{Block: 32 * (k + 1), Blocks: 9})
			p, _ := purse.New(api.LeastK*k + more)
			desk, _ := tape.NewDesk(d, p)
			w, _ := desk.Write("f", api.KindNodes)
			w.Put(api.Rec{api.Mark, 1, uint64(api.True), 0})
			w.Close()
			for _, plan := range []plan{three(state{}, "f", "f", "f"), swap(0, api.True, "f")} {
				x := &descent{plan: plan, desk: desk}
				if e := x.open("a", "b"); e != api.OK || p.Free() != 0 {
					t.Errorf("K %d: open: %d, %d are free", k, e, p.Free())
				}
				if x.room < 1 || x.hand < 2*x.room+inHand {
					t.Errorf("K %d: room for %d fates within %d records", k, x.room, x.hand)
				}
				x.shut()
				x.end(api.ErrFault)
				if p.Used() != 0 || len(d.Names()) != 1 {
					t.Errorf("K %d: %d are out, the disk holds %v", k, p.Used(), d.Names())
				}
			}
		}
	}
}
