package catalog_test

import (
	"testing"

	"strata/api"
	"strata/bench"
	"strata/catalog"
)

// told fails the test unless the answer and what the disk has refused are the same. G7.
func told(b bench.Bench, what any, e api.Errno) {
	b.Helper()
	n := b.Disk().Counts()
	if n.Faults+n.Full > 1 || e != api.ErrOff && (n.Faults > 0) != (e == api.ErrFault) || e != api.ErrOff && (n.Full > 0) != (e == api.ErrFull) || (e == api.ErrOff) == b.Disk().On() {
		b.Fatalf("%v: %d, and the disk has counted %+v", what, e, n)
	}
}

// TestFaultsOfCommit: a fault at each call; behind it nothing is asked but the Delete of what was begun, in which the power may go off. P17.3, G7, As before.
func TestFaultsOfCommit(t *testing.T) {
	for _, c := range changes() {
		calm := bed(t, c.st)
		commits(calm, c.what, c.r, c.gen)
		done := calm.Disk().State()
		blocks := calm.Disk().Counts().Appends
		for at := range calm.Disk().Counts().Calls {
			fault := api.Trouble{At: at, Kind: api.TrFault}
			what := []any{c.what, c.k, at}
			b := bed(t, c.st, fault)
			e := catalog.Commit(b.Desk, c.r, c.gen)
			told(b, what, e)
			if at > blocks+1 { // a Delete, which no fault befalls
				b.Is(what, e, api.OK)
				holds(b, what, done)
				continue
			}
			b.Is(what, e, api.ErrFault)
			b.AsBefore(what)
			after := b.Disk().Counts().Calls - at - 1
			if after > 1 || after == 0 && at > 0 {
				t.Errorf("%v: %d calls behind the fault", what, after)
			}
			for bytes := range 2 * after {
				off := bed(t, c.st, fault, api.Trouble{At: at + 1, Kind: api.TrCut, Bytes: bytes})
				e := catalog.Commit(off.Desk, c.r, c.gen)
				off.Is(what, e, api.ErrOff)
				told(off, what, e)
				off.Stays(what)
				recovers(t, what, off.Disk().State(), c.was(), 0)
			}
		}
	}
}

// TestFullDisk: each number of free blocks from none to enough. P17.3, G7, As before.
func TestFullDisk(t *testing.T) {
	for _, c := range changes() {
		blocks := (len(recordsOf(c.r, c.gen)) + c.k - 1) / c.k
		for free := range blocks + 2 {
			b := bench.MountSmall(t, c.st, api.LeastK*c.k, free)
			what := []any{c.what, c.k, free}
			e := catalog.Commit(b.Desk, c.r, c.gen)
			told(b, what, e)
			if free >= blocks {
				b.Is(what, e, api.OK)
				readsAs(b, what, c.then())
				continue
			}
			b.Is(what, e, api.ErrFull)
			b.AsBefore(what)
			recovers(t, what, b.Disk().State(), c.was(), 0)
		}
	}
}

// TestFaultsOfReading: at each block of Read and of Recover, which then deletes nothing. P17.2, P17.4, G7.
func TestFaultsOfReading(t *testing.T) {
	for _, c := range changes() {
		calm := bed(t, c.st)
		readsAs(calm, c.what, c.was())
		reads := calm.Disk().Counts().Calls
		deletes := 0
		for at := range reads + len(c.st.Files) {
			b := bed(t, c.st, api.Trouble{At: at, Kind: api.TrFault})
			want := c.was()
			if at < reads {
				want = refused(api.ErrFault)
			}
			readsAs(b, at, want)
			told(b, at, want.e)
			b = bed(t, c.st, api.Trouble{At: at, Kind: api.TrFault})
			recoversAs(b, at, want) // a fault at a Delete is none
			told(b, at, want.e)
			if at >= reads && b.Disk().Counts().Calls > at {
				deletes++
			}
			if at < reads {
				off := bed(t, c.st, api.Trouble{At: at, Kind: api.TrCut, Bytes: at % 2})
				if got := read(off); !got.is(refused(api.ErrOff)) {
					t.Errorf("%s: power off at %d: %+v", c.what, at, got)
				}
				off.AsBefore(at)
			}
		}
		if deletes != len(c.st.Files)-len(tidied(c.st, c.was().r, c.was().gen).Files) {
			t.Errorf("%s: %d Deletes", c.what, deletes)
		}
	}
}

// TestEachBit of the newest catalog turned: it is told, no older one takes its place, and nothing is deleted; bits of other files are nobody's business. P17.7, W8.
func TestEachBit(t *testing.T) {
	for _, i := range []int{5, 12} {
		c := changes()[i]
		for _, f := range c.st.Files {
			want := c.was()
			if f.Name == catName(want.gen) {
				want = refused(api.ErrSpoilt)
			}
			for n := range f.Blocks {
				for bit := range 8 * c.st.Block {
					b := bed(t, c.st)
					b.Is(bit, b.Disk().Spoil(f.Name, n, bit), api.OK)
					readsAs(b, f.Name, want)
					recoversAs(b, f.Name, want)
				}
			}
		}
	}
}

// TestFaultBehindASpoiltBlock, and ahead of one: the first that is met is told. P17.7.
func TestFaultBehindASpoiltBlock(t *testing.T) {
	c := changes()[2]
	f, _ := find(c.st, catName(c.gen))
	for n := range f.Blocks {
		for at := range f.Blocks {
			for kind, e := range map[int]api.Errno{api.TrFault: api.ErrFault, api.TrCut: api.ErrOff} {
				want := api.ErrSpoilt
				if at <= n {
					want = e
				}
				for _, call := range []func(bench.Bench) answer{read, recover1} {
					b := bed(t, c.st, api.Trouble{At: at, Kind: kind})
					b.Disk().Spoil(f.Name, n, 99)
					b.Was = b.Disk().State()
					if got := call(b); !got.is(refused(want)) {
						t.Errorf("block %d, call %d: %+v, want %d", n, at, got, want)
					}
					b.AsBefore(n)
				}
			}
		}
	}
}

// TestFaultBehindWrongRecords: the refusals of reading come ahead of what the records say. P17.2.
func TestFaultBehindWrongRecords(t *testing.T) {
	list := recordsOf(base(), 4)
	for i := range list {
		bent := append([]api.Rec{}, list...)
		bent[i][2] = 77
		st := disk(1, append(filesUpTo(1, 5), tape(catName(3), api.KindTable, 1, bent))...)
		for at := range list {
			b := bed(t, st, api.Trouble{At: at, Kind: api.TrFault})
			readsAs(b, i, refused(api.ErrFault))
		}
		readsAs(bed(t, st), i, refused(api.ErrRows))
	}
}
