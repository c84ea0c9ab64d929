package sorter_test

import (
	"testing"

	"strata/api"
	"strata/sorter"
)

// plot is a call, what it answers where nothing befalls it, and what it then makes.
type plot struct {
	call
	what string
	size int
	in   [][]api.Rec
	e    api.Errno
}

// plots go through all that a call of the sorter may come to.
func plots() []plot {
	r := dice(11)
	many := r.rising(plain, 11, 5, 4)
	falls := append(r.rising(plain, 6, 4, 4), firsts(1, 2, 3, 2))
	sort := func(once bool, share int) call {
		return call{false, inputs(1), "out", api.KindRaw, plain, once, share}
	}
	merge := func(n int, once bool, share int) call {
		return call{true, inputs(n), "out", api.KindRaw, plain, once, share}
	}
	return []plot{
		{sort(false, 8), "no records", 96, [][]api.Rec{nil}, api.OK},
		{sort(false, 8), "one record", 96, [][]api.Rec{firsts(1)}, api.OK},
		{sort(false, 8), "one run", 96, [][]api.Rec{r.list(4, 3)}, api.OK},
		{sort(false, 8), "one run and a record", 96, [][]api.Rec{r.list(5, 3)}, api.OK},
		{sort(false, 8), "three passes", 96, [][]api.Rec{r.list(39, 20)}, api.OK},
		{sort(true, 8), "three passes, once", 96, [][]api.Rec{r.list(41, 2)}, api.OK},
		{sort(false, 4), "blocks of one record", 64, [][]api.Rec{r.list(19, 9)}, api.OK},
		{sort(false, 26), "a share that is no multiple", 128, [][]api.Rec{r.list(60, 9)}, api.OK},
		{merge(0, false, 8), "nothing", 96, nil, api.OK},
		{merge(1, false, 8), "one tape", 96, many[:1], api.OK},
		{merge(3, true, 8), "three tapes", 96, many[:3], api.OK},
		{merge(11, false, 8), "eleven tapes", 96, many, api.OK},
		{merge(11, true, 4), "eleven tapes, once", 64, many, api.OK},
		{merge(7, false, 8), "a tape that falls behind six others", 96, falls, api.ErrRise},
	}
}

// state is what the disk holds ahead of the call.
func (p plot) state(t *testing.T) api.State {
	t.Helper()
	return holds(t, p.size, p.kind, p.in...)
}

// try makes the call and looks at all that is promised of it, whatever has befallen it.
func (p plot) try(b bench, troubles ...api.Trouble) api.Errno {
	b.Helper()
	e := p.do(b.Desk)
	n := b.Disk().Counts()
	what := []any{p.what, troubles, n, e}
	switch e {
	case api.OK:
		b.made(what, p.out, p.kind, model(p.order, p.once, p.in...))
	case api.ErrOff:
		b.stays(what)
	default:
		b.asBefore(what)
	}
	if (e == api.ErrOff) == b.Disk().On() {
		b.Fatalf("%v: power %v", what, b.Disk().On())
	}
	if e != api.OK && e != api.ErrOff && e != api.ErrFault && e != api.ErrFull && e != p.e {
		b.Fatalf("%v: an answer without a cause", what)
	}
	if e == api.OK && p.e != api.OK {
		b.Fatalf("%v, want %d", what, p.e)
	}
	if n.Faults+n.Full > 1 || e != api.ErrOff && (n.Faults > 0) != (e == api.ErrFault) || e != api.ErrOff && (n.Full > 0) != (e == api.ErrFull) {
		b.Fatalf("%v: the answer and what the disk has refused are not the same", what)
	}
	if peak := b.Purse().Peak(); peak > b.hand+p.share {
		b.Fatalf("%v: peak %d", what, peak)
	}
	if k := b.K(); !p.merge && !p.once && k*n.Reads > k*n.Appends+p.share+k {
		b.Fatalf("%v: it holds more of the tape than its share", what)
	}
	return e
}

// TestTroubleAtEachCall: a fault, or the power off, at each numbered call. G7, P5.4, P5.5, W6, W7.
func TestTroubleAtEachCall(t *testing.T) {
	for _, p := range plots() {
		was := p.state(t)
		calm := mount(t, was, p.share)
		if e := p.try(calm); e != p.e {
			t.Fatalf("%s: %d", p.what, e)
		}
		calls := calm.Disk().Counts().Calls
		kept := 0 // faults that befell a Delete
		for at := range calls + 1 {
			fault := []api.Trouble{{At: at, Kind: api.TrFault}}
			e := p.try(mount(t, was, p.share, fault...), fault...)
			if e == p.e {
				kept++
			} else if e != api.ErrFault {
				t.Fatalf("%s: a fault at %d: %d", p.what, at, e)
			}
			for _, bytes := range []int{-1, 0, 1, 40, p.size, 1 << 40} {
				cut := []api.Trouble{{At: at, Kind: api.TrCut, Bytes: bytes}}
				if e := p.try(mount(t, was, p.share, cut...), cut...); (e == api.ErrOff) != (at < calls) {
					t.Fatalf("%s: power off at %d of %d: %d", p.what, at, calls, e)
				}
			}
		}
		if kept < 1 || p.e == api.OK && kept > calls/2+1 {
			t.Errorf("%s: %d of %d faults are not told", p.what, kept, calls)
		}
	}
}

// TestBehindAFault: from the first refusal on nothing is asked but Deletes, which no fault befalls; where the power goes off in one of them, that is told. G7.
func TestBehindAFault(t *testing.T) {
	for _, p := range plots() {
		was := p.state(t)
		calm := mount(t, was, p.share)
		p.try(calm)
		off := 0
		for at := range calm.Disk().Counts().Calls {
			fault := api.Trouble{At: at, Kind: api.TrFault}
			b := mount(t, was, p.share, fault)
			if e := p.try(b, fault); e != api.ErrFault {
				continue // at a Delete
			}
			last := b.Disk().Counts().Calls // none behind it
			var all []api.Trouble
			for i := at; i <= last; i++ {
				all = append(all, api.Trouble{At: i, Kind: api.TrFault})
			}
			again := mount(t, was, p.share, all...)
			if e := p.try(again, all...); e != api.ErrFault || again.Disk().Counts() != b.Disk().Counts() {
				t.Fatalf("%s: faults from %d on: %d, %+v", p.what, at, e, again.Disk().Counts())
			}
			for then := at + 1; then <= last; then++ {
				two := []api.Trouble{fault, {At: then, Kind: api.TrCut, Bytes: then % 2}}
				e := p.try(mount(t, was, p.share, two...), two...)
				if want := then < last; (e == api.ErrOff) != want || !want && e != api.ErrFault {
					t.Fatalf("%s: a fault at %d of %d, power off at %d: %d", p.what, at, last, then, e)
				}
				if e == api.ErrOff {
					off++
				}
			}
		}
		if off == 0 {
			t.Errorf("%s: the power never went off behind a fault", p.what)
		}
	}
}

// TestFullDisk: each number of free blocks from none to enough. G7, P5.4.
func TestFullDisk(t *testing.T) {
	for _, p := range plots() {
		was := p.state(t)
		calm := mount(t, was, p.share)
		p.try(calm)
		most := calm.Disk().Counts().Most - mount(t, was, 0).Disk().Counts().Used
		for room := range most + 2 {
			e := p.try(mountSmall(t, was, p.share, room), api.Trouble{})
			if want := room < most; (e == api.ErrFull) != want || !want && e != p.e {
				t.Fatalf("%s: %d blocks free, %d are enough: %d", p.what, room, most, e)
			}
		}
	}
}

// TestTheSameCalls: the same disk, purse and arguments make the same calls. G2, G7.
func TestTheSameCalls(t *testing.T) {
	for _, p := range plots() {
		was := p.state(t)
		one := mount(t, was, p.share)
		p.try(one)
		for range 20 {
			other := mount(t, was, p.share)
			p.try(other)
			if one.Disk().Counts() != other.Disk().Counts() {
				t.Fatalf("%s: %+v, and %+v", p.what, one.Disk().Counts(), other.Disk().Counts())
			}
		}
	}
}

// TestWhereASortStops: K times the Reads, wherever the disk stops it, for many lengths and shares. P5.4, W4.
func TestWhereASortStops(t *testing.T) {
	near := 0
	for seed := range 60 {
		r := dice(seed)
		size := 32 * (2 + r.below(4))
		k := size/32 - 1
		p := plot{what: "a sort", size: size, in: [][]api.Rec{r.list(r.below(30*k), 99)}}
		p.call = call{false, inputs(1), "out", api.KindRaw, plain, false, 4*k + r.below(3*k)}
		was := p.state(t)
		calm := mount(t, was, p.share)
		if e := p.try(calm); e != api.OK {
			t.Fatalf("seed %d: %d", seed, e)
		}
		n := calm.Disk().Counts()
		if reads, appends := sorter.Bound(len(p.in[0]), k, p.share); n.Reads > reads || n.Appends > appends {
			t.Fatalf("seed %d: %+v, bound %d", seed, n, reads)
		}
		for at := range n.Calls {
			fault := api.Trouble{At: at, Kind: api.TrFault}
			b := mount(t, was, p.share, fault)
			p.try(b, fault)
			if n := b.Disk().Counts(); k*n.Reads > k*n.Appends+p.share-3*k {
				near++
			}
		}
	}
	if near == 0 {
		t.Error("no sort has come near to what it may hold")
	}
}
