package catalog_test

import (
	"slices"
	"testing"

	"strata/api"
	"strata/bench"
	"strata/catalog"
)

// change is a Commit over a disk whose newest catalog tells a table.
type change struct {
	what string
	k    int
	st   api.State
	r    api.Rows
	gen  uint64
}

// was is what the disk tells ahead of it.
func (c change) was() answer { return readOf(c.st) }

// then is what it tells behind it.
func (c change) then() answer { return answer{c.r, c.gen + 1, api.OK} }

// changes are Commits that are not refused.
func changes() []change {
	var out []change
	for _, k := range []int{1, 3} {
		files := append(filesUpTo(k, 4), some(k, "a", false), some(k, "d", true), some(k, "tmp-1", false), some(k, catName(0), true), some(k, "zz", true))
		r := base()
		fewer := table(3, 9, 5, api.Row{Handle: 8, File: 1})
		out = append(out,
			change{"the first", k, disk(k), table(2, 1, 1), 0},
			change{"the first, beside others", k, disk(k, files...), r, 0},
			change{"a row more", k, disk(k, append(files, cat(k, 6, table(3, 2, 5, api.Row{Handle: 1, File: 3})))...), r, 6},
			change{"rows less", k, disk(k, append(files, cat(k, 6, r))...), fewer, 6},
			change{"the same", k, disk(k, append(files, cat(k, 6, r))...), r, 6},
			change{"an older one beside", k, disk(k, append(files, cat(k, 6, r), cat(k, 2, fewer), some(k, catName(1), false))...), fewer, 6},
			change{"the last generation", k, disk(k, append(files, cat(k, last-1, r))...), table(0, 1, 0), last - 1})
	}
	return out
}

// TestChanges: none is refused, and what the disk tells ahead is a table.
func TestChanges(t *testing.T) {
	for _, c := range changes() {
		b := bed(t, c.st)
		b.Is(c.what, commits(b, c.what, c.r, c.gen), api.OK)
		if was := c.was(); was.e != api.OK || was.gen != c.gen && c.gen != 0 {
			t.Errorf("%s: %+v", c.what, was)
		}
	}
}

// bytesOf are how much of a call may be done.
func bytesOf(block int) []int { return []int{-1, 0, 1, 33, block - 1, block, 1 << 40} }

// recovers fails the test unless a disk tells that, also behind so many Recovers in which the power goes off.
func recovers(t *testing.T, what any, st api.State, want answer, deep int) {
	t.Helper()
	readsAs(bed(t, st), what, want)
	b := bed(t, st)
	recoversAs(b, what, want)
	if deep == 0 {
		return
	}
	for at := range b.Disk().Counts().Calls {
		for _, bytes := range []int{0, 1} {
			off := bed(t, st, api.Trouble{At: at, Kind: api.TrCut, Bytes: bytes})
			if got := recover1(off); !got.is(refused(api.ErrOff)) {
				t.Fatalf("%v: power off at %d of a Recover: %+v", what, at, got)
			}
			off.Out(what)
			recovers(t, what, off.Disk().State(), want, deep-1)
		}
	}
}

// TestBeforeOrAfter: the power goes off at each call of a Commit. P17.5, W7.
func TestBeforeOrAfter(t *testing.T) {
	for _, c := range changes() {
		calm := bed(t, c.st)
		commits(calm, c.what, c.r, c.gen)
		before, after := 0, 0
		for at := range calm.Disk().Counts().Calls {
			for _, bytes := range bytesOf(c.st.Block) {
				b := bed(t, c.st, api.Trouble{At: at, Kind: api.TrCut, Bytes: bytes})
				what := []any{c.what, c.k, at, bytes}
				b.Is(what, catalog.Commit(b.Desk, c.r, c.gen), api.ErrOff)
				b.Out(what)
				left := b.Disk().State()
				want := c.was()
				if f, there := find(left, catName(c.gen+1)); there && f.Sealed {
					want = c.then()
					after++
				} else {
					before++
				}
				recovers(t, what, left, want, 1)
			}
		}
		if before == 0 || after == 0 {
			t.Errorf("%s: %d before, %d after", c.what, before, after)
		}
	}
}

// TestRecoverAgainAndAgain: the power goes off in Recover behind Recover. P17.5, W7.
func TestRecoverAgainAndAgain(t *testing.T) {
	c := changes()[5]
	recovers(t, "ahead of it", c.st, c.was(), 3)
	recovers(t, "no catalog", changes()[1].st, answer{}, 3)
}

// TestTheStepsOfCommit: nothing is deleted ahead of the seal; then what must go goes, by the names, rising. P17.3, As before.
func TestTheStepsOfCommit(t *testing.T) {
	for _, c := range changes() {
		calm := bed(t, c.st)
		commits(calm, c.what, c.r, c.gen)
		calls := calm.Disk().Counts()
		blocks := (len(recordsOf(c.r, c.gen)) + c.k - 1) / c.k
		var go1 []string
		for _, name := range namesOf(c.st) {
			if !stays(name, c.r, c.gen+1) {
				go1 = append(go1, name)
			}
		}
		if calls.Appends != blocks || calls.Reads != 0 || calls.Calls != blocks+2+len(go1) {
			t.Errorf("%s: %+v, want %d blocks and %d Deletes", c.what, calls, blocks, len(go1))
		}
		for at := range calls.Calls {
			b := bed(t, c.st, api.Trouble{At: at, Kind: api.TrCut})
			catalog.Commit(b.Desk, c.r, c.gen)
			gone := slices.DeleteFunc(namesOf(c.st), func(name string) bool {
				_, there := find(b.Disk().State(), name)
				return there
			})
			if want := go1[:max(0, at-blocks-2)]; !slices.Equal(gone, want) {
				t.Errorf("%s: ahead of call %d these are gone: %v, want %v", c.what, at, gone, want)
			}
		}
	}
}

// TestTheStepsOfRecover: what must go goes, by the names, rising. P17.4.
func TestTheStepsOfRecover(t *testing.T) {
	for _, c := range changes() {
		want := c.was()
		kept := tidied(c.st, want.r, want.gen)
		calm := bed(t, c.st)
		recoversAs(calm, c.what, want)
		calls := calm.Disk().Counts()
		if calls.Calls-calls.Reads != len(c.st.Files)-len(kept.Files) {
			t.Errorf("%s: %+v", c.what, calls)
		}
		for at := range calls.Calls {
			b := bed(t, c.st, api.Trouble{At: at, Kind: api.TrCut})
			if got := recover1(b); !got.is(refused(api.ErrOff)) {
				t.Errorf("%s: %+v", c.what, got)
			}
			gone := 0
			for _, f := range c.st.Files {
				_, there := find(b.Disk().State(), f.Name)
				goes := !stays(f.Name, want.r, want.gen)
				if goes && gone < at-calls.Reads {
					gone++
					goes = false
					there = !there
				}
				if !there {
					t.Errorf("%s: ahead of call %d: %s", c.what, at, f.Name)
				}
			}
		}
	}
}

// walk is a disk that Commits and Recovers go over, and what it tells.
type walk struct {
	t    *testing.T
	d    bench.Dice
	st   api.State
	told answer
}

// step lays files, commits a table of them, and loses its power sometimes.
func (w *walk) step() {
	w.t.Helper()
	k := w.st.Block/32 - 1
	next := w.told.r
	if w.told.gen == 0 {
		next = table(3, 1, 0)
	}
	next.Rows = slices.DeleteFunc(slices.Clone(next.Rows), func(api.Row) bool { return w.d.Below(4) == 0 })
	for range w.d.Below(3) {
		next.Rows = append(next.Rows, api.Row{Handle: next.Next, File: next.NextFile})
		w.st = disk(k, append(w.st.Files, dd(k, next.NextFile))...)
		next.Next++
		next.NextFile++
	}
	next.Order = w.d.Some(3, 3)
	trouble := api.Trouble{At: w.d.Below(25), Kind: api.TrFault + w.d.Below(2), Bytes: w.d.Below(2)}
	b := bed(w.t, w.st, trouble)
	e := catalog.Commit(b.Desk, next, w.told.gen)
	then := answer{next, w.told.gen + 1, api.OK}
	switch e {
	case api.OK:
		w.told = then
	case api.ErrFault:
		b.AsBefore(trouble)
	case api.ErrOff:
		if f, _ := find(b.Disk().State(), catName(then.gen)); f.Sealed {
			w.told = then
		}
	default:
		w.t.Fatalf("Commit of %+v: %d", next, e)
	}
	again := bed(w.t, b.Disk().State())
	recoversAs(again, trouble, w.told)
	w.st = again.Disk().State()
}

// TestALife of a table: before or after at each step, and nothing else on the disk. P17.5, P17.8, W7.
func TestALife(t *testing.T) {
	for seed := range 20 {
		w := &walk{t: t, d: bench.Dice(seed), st: disk(1 + seed%4)}
		for range 100 {
			w.step()
		}
		if w.told.gen < 20 {
			t.Errorf("generation %d", w.told.gen)
		}
	}
}
