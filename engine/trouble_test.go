package engine_test

import (
	"testing"

	"strata/api"
	"strata/bench"
	"strata/engine"
)

// steps are calls over a busy engine: each kind, done and refused.
func steps() []act {
	return []act{constant(true), variable(2), cube(litsOf([]int{2, 0})...), text("x0 & !x1 | exists x2: x2 ^ x1"), clauses("p cnf 3 2\n1 -2 0\n2 3 0\n"), load(3, bench.Number(3, 0x6a)), load(2, bench.Number(2, 6)),
		not(1), apply(api.OpXor, 1, 2), ite(2, 1, 6), restrict(2, litsOf([]int{1})...), exists(1, 0, 2), forall(1, 1), compose(2, 1, 6), rename(2, 1, 2, 0), rename(2, 1, 1, 0), copyOf(1),
		free(1), free(2), swap(1), reorder(0, 1, 2), sift(), own(1, api.OK), own(1, api.ErrPerm)}
}

// asks are calls that change nothing.
func asks() []act {
	return []act{count(1), density(2), nodesOf(2), support(6), first(1), first(4), eval(1, true, true, false), equal(1, 5), equal(1, 2), dump(2), look(1, 2, api.OK), look(1, 2, api.ErrNode)}
}

// TestEachFault: at each call of each step it is told and all is as before; at a Delete it is none. W1, W6, G7.
func TestEachFault(t *testing.T) {
	const k = 2
	base := busy(t, k).m
	for _, a := range append(steps(), asks()...) {
		from, to, want := calls(t, base, a)
		told := 0
		for at := from; at < to; at++ {
			fault := api.Trouble{At: at, Kind: api.TrFault}
			r := opened(t, base, options(3, k), fault)
			got := r.does(a)
			if r.d.Counts().Faults > 0 {
				told++
			} else if got != want {
				t.Fatalf("%s: a fault at Delete %d: %+v", a.what, at, got)
			}
		}
		if told == 0 {
			t.Errorf("%s: no fault was told", a.what)
		}
	}
}

// calls are the numbers of the first call of an act and of the one behind it, and what it answers.
func calls(t *testing.T, base *model, a act) (from, to int, want answer) {
	t.Helper()
	r := opened(t, base, options(3, base.k))
	from = r.d.Counts().Calls
	want = r.does(a)
	return from, r.d.Counts().Calls, want
}

// TestBehindEachFault nothing is asked but Deletes: the power that goes off there is told. G7, W7.
func TestBehindEachFault(t *testing.T) {
	const k = 2
	base := busy(t, k).m
	off := 0
	for _, a := range []act{apply(api.OpXor, 1, 2), load(2, bench.Number(2, 6)), swap(1), own(1, api.OK), copyOf(1), rename(2, 1, 2, 0)} {
		from, to, _ := calls(t, base, a)
		for at := from; at < to; at++ {
			fault := api.Trouble{At: at, Kind: api.TrFault}
			r := opened(t, base, options(3, k), fault)
			if r.does(a) != refused(api.ErrFault) {
				continue
			}
			end := r.d.Counts()
			var more []api.Trouble
			for then := at; then < end.Calls; then++ {
				more = append(more, api.Trouble{At: then, Kind: api.TrFault})
			}
			again := opened(t, base, options(3, k), more...)
			again.is(a, refused(api.ErrFault))
			if again.d.Counts() != end {
				t.Fatalf("%s: behind the fault at %d not only Deletes: %+v, %+v", a.what, at, end, again.d.Counts())
			}
			for then := at + 1; then < end.Calls; then++ {
				cut := opened(t, base, options(3, k), fault, api.Trouble{At: then, Kind: api.TrCut, Bytes: then % 2})
				cut.is(a, refused(api.ErrOff))
				cut.recovers(base, base)
				off++
			}
		}
	}
	if off < 50 {
		t.Errorf("the power went off %d times", off)
	}
}

// TestEachCut: the power goes off at each call of each step: it is opened again as ahead of the step or as behind it, also where the power goes off in that Open. P18.7, W7.
func TestEachCut(t *testing.T) {
	const k = 2
	base := busy(t, k).m
	for _, a := range append(steps(), asks()...) {
		from, to, want := calls(t, base, a)
		after := base.clone()
		a.say(after)
		before, behind := 0, 0
		for at := from; at < to; at++ {
			for _, bytes := range []int{0, 1 + at%90, 1 << 40} {
				r := opened(t, base, options(3, k), api.Trouble{At: at, Kind: api.TrCut, Bytes: bytes})
				r.is(a, refused(api.ErrOff))
				left := r.d.State()
				r.recovers(base, after)
				if r.m.gen == base.gen {
					before++
				} else {
					behind++
				}
				kept := r.m
				again := &rig{t, mount(t, left, room, api.Trouble{At: at % 9, Kind: api.TrCut, Bytes: at % 2}), nil, kept, r.o}
				if !again.opens(kept, kept) {
					again.recovers(kept, kept)
				}
			}
		}
		if before == 0 || (behind > 0) != (after.gen != base.gen) {
			t.Errorf("%s: %+v, %d before, %d behind", a.what, want, before, behind)
		}
	}
}

// TestEachBit of each block turned: each call answers right or ErrSpoilt; Open too, and it never falls back. W8.
func TestEachBit(t *testing.T) {
	const k = 2
	base := busy(t, k).m
	spoilt, right := map[string]int{}, map[string]int{}
	turn := 0
	for _, f := range base.state().Files {
		for i := range f.Blocks {
			for bit := 0; bit < 8*32*(k+1); bit += 3 + turn%11 {
				turn++
				for j, a := range append(steps(), asks()...) {
					if (j+turn)%6 != 0 {
						continue
					}
					r := opened(t, base, options(3, k))
					r.d.Spoil(f.Name, i, bit)
					if r.spoiltDoes(a, f.Name, i, bit) {
						spoilt[a.what]++
					} else {
						right[a.what]++
					}
				}
			}
		}
	}
	for _, a := range append(steps(), asks()...) {
		if right[a.what] == 0 {
			t.Errorf("%s never answered right", a.what)
		}
	}
	for _, a := range []act{not(1), apply(api.OpXor, 1, 2), ite(2, 1, 6), exists(1, 0, 2), swap(1), sift(), count(1), dump(2), equal(1, 5), own(1, api.OK), look(1, 2, api.OK)} {
		if spoilt[a.what] == 0 {
			t.Errorf("%s was never told of a turned bit", a.what)
		}
	}
}

// spoiltDoes makes a call on a disk with a turned bit. Whether that was told.
func (r *rig) spoiltDoes(a act, name string, i, bit int) bool {
	r.Helper()
	ahead := r.m.clone()
	got, want := a.do(r.e), a.say(r.m)
	told := got == refused(api.ErrSpoilt)
	if told {
		r.m = ahead
	} else if got != want {
		r.Fatalf("%s, bit %d of block %d of %s: %+v, want %+v", a.what, bit, i, name, got, want)
	}
	r.d.Spoil(name, i, bit) // if it is still there
	r.rests(a.what)
	return told
}

// TestOpenOfASpoiltDisk: each bit of each block. P18.1, W8.
func TestOpenOfASpoiltDisk(t *testing.T) {
	const k = 1
	base := busy(t, k).m
	for _, f := range base.state().Files {
		for i := range f.Blocks {
			for bit := range 8 * 32 * (k + 1) {
				d := mount(t, base.state(), room)
				d.Spoil(f.Name, i, bit)
				held := d.State()
				if f.Name == catName(base.gen) {
					opensNot(t, bit, d, options(3, k), api.ErrSpoilt, held)
					continue
				}
				r := &rig{t, d, nil, base, options(3, k)}
				r.opensSpoilt(held)
			}
		}
	}
}

// opensSpoilt opens a disk whose catalog is as it must be: it is not changed.
func (r *rig) opensSpoilt(held api.State) {
	r.Helper()
	e, no := engine.Open(r.d, r.o)
	if no != api.OK || !sameState(r.d.State(), held) {
		r.Fatalf("Open: %d", no)
	}
	r.e = e
	r.tells("a spoilt file", r.m)
}
