package reach_test

import (
	"fmt"
	"testing"

	"strata/api"
	"strata/bench"
	"strata/engine"
)

// base is an engine with steps 1, sets 2 and 3, and a function 4 that is no set, in an order of its own.
func base(t *testing.T, bits, k int) *rig {
	t.Helper()
	r := begin(t, k, options(2*bits, k))
	to := []int{2, 3, 1, 0, 5, 4, 7, 6}
	r.putSteps(func(s, t int) bool { return to[s] == t || s == 1 && t == 1 || s == t+1 })
	r.putSet(func() set { in := make(set, 1<<bits); in[0] = true; return in }())
	r.putSet(func() set { in := make(set, 1<<bits); in[1], in[len(in)-1] = true, true; return in }())
	r.put(bench.TableOf(2*bits, func(x int) bool { return x%3 == 1 }))
	if bits == 1 {
		r.order(1, 0)
	} else {
		r.order(append([]int{2, 1, 3, 0}, []int{5, 4}[:2*bits-4]...)...)
	}
	return r
}

// tried are calls of each kind over a base, and some that are refused.
func tried() []act {
	return append(everyCall(1, 2, 3), trace(1, 3, 2), post(1, 4), until(1, 2, 4), holds(1, []int{2, 3}, anySmall()), holds(1, []int{3}, named("a", 0)))
}

// anySmall is a property with parts that are asked for again.
func anySmall() property {
	a, b := named("a", 0), named("b", 1)
	twice := prefixed("AX", joined(a, signs()[3], b))
	return joined(joined(twice, signs()[1], a), signs()[0], joined(b, signs()[2], prefixed("EG", twice)))
}

// same tells whether two disks hold the same.
func same(a, b api.State) bool { return fmt.Sprint(a) == fmt.Sprint(b) }

// blames fails the test unless an answer tells what the disk has refused. G7.
func (r *rig) blames(what any, was api.Counts, got, want answer, h int) {
	r.Helper()
	now := r.d.Counts()
	faults, full := now.Faults-was.Faults, now.Full-was.Full
	code := got.fault.Code
	switch {
	case faults+full > 1, (code == api.ErrOff) == r.d.On(), got != want && got != refused(code), got.made != (h != 0):
	case code == api.ErrOff:
		return
	case (code == api.ErrFault) != (faults > 0), full > 0 && code != api.ErrFull, faults+full == 0 && code != api.ErrFull && got != want:
	default:
		return
	}
	r.Fatalf("%v: %+v, handle %d, want %+v; the disk has counted %+v, then %+v", what, got, h, want, was, now)
}

// bears makes a call that something may befall, and looks at all that is promised of it. W1, W5, W6, W7.
func (r *rig) bears(a act, troubles ...api.Trouble) answer {
	r.Helper()
	held, was, tells := r.d.State(), r.d.Counts(), fmt.Sprint(r.e.Order(), r.e.Handles(), r.e.Peak())
	want, f := r.says(a)
	got, h := a.do(r.e)
	what := fmt.Sprint(a.what, " ", troubles)
	r.blames(what, was, got, want, h)
	switch {
	case got == refused(api.ErrOff):
		if now := fmt.Sprint(r.e.Order(), r.e.Handles(), r.e.Peak()); now != tells {
			r.Fatalf("%s: it tells %s, it told %s", what, now, tells)
		}
		r.recovers(what, f)
		return got
	case got == want && want.made:
		r.f[h] = f
	case !same(r.d.State(), held):
		r.Fatalf("%s: the disk holds %v", what, r.d.Names())
	}
	r.rests(what)
	return got
}

// recovers opens what a disk without power holds: that is as ahead of the step or as behind it. W7.
func (r *rig) recovers(what any, f []bool) {
	r.Helper()
	behind := r.on(r.d.State(), room)
	if all := behind.e.Handles(); f != nil && len(all) == len(r.f)+1 {
		behind.f[all[len(all)-1]] = f
	}
	behind.rests(what)
}

// calls are the number of the first call of an act on a base and of the one behind it.
func (r *rig) calls(a act) (from, to int) {
	r.Helper()
	x := r.again(room)
	from = x.d.Counts().Calls
	x.does(a)
	return from, x.d.Counts().Calls
}

// TestEachFault: at each call of each step it is told, and all is as before; at a Delete it is none. G7, W1, W6.
func TestEachFault(t *testing.T) {
	t.Parallel()
	for bits := 1; bits <= 2; bits++ {
		b := base(t, bits, 2)
		for _, a := range tried() {
			from, to := b.calls(a)
			told := 0
			for at := from; at < to; at += 1 + (bits-1)*6 {
				fault := api.Trouble{At: at, Kind: api.TrFault}
				if b.again(room, fault).bears(a, fault) == refused(api.ErrFault) {
					told++
				}
			}
			if told == 0 {
				t.Errorf("%s: no fault was told", a.what)
			}
		}
	}
}

// TestBehindAFault: nothing is asked but Deletes, which no fault befalls; the power that goes off there is told. G7, W7.
func TestBehindAFault(t *testing.T) {
	t.Parallel()
	b := base(t, 1, 2)
	off := 0
	for _, a := range tried() {
		from, to := b.calls(a)
		for at := from; at < to; at += 5 {
			fault := api.Trouble{At: at, Kind: api.TrFault}
			r := b.again(room, fault)
			if r.bears(a, fault) != refused(api.ErrFault) {
				continue
			}
			end := r.d.Counts()
			var more []api.Trouble
			for then := at; then < end.Calls; then++ {
				more = append(more, api.Trouble{At: then, Kind: api.TrFault})
			}
			again := b.again(room, more...)
			if again.bears(a, more...); again.d.Counts() != end {
				t.Fatalf("%s: behind the fault at %d not only Deletes: %+v, %+v", a.what, at, end, again.d.Counts())
			}
			for then := at + 1; then < end.Calls; then++ {
				cut := api.Trouble{At: then, Kind: api.TrCut, Bytes: then % 2}
				if b.again(room, fault, cut).bears(a, fault, cut) == refused(api.ErrOff) {
					off++
				}
			}
		}
	}
	if off < 50 {
		t.Errorf("the power went off %d times", off)
	}
}

// TestEachCut: the power goes off at each call: what the disk holds is opened as ahead of the step or as behind it. W7.
func TestEachCut(t *testing.T) {
	t.Parallel()
	for bits := 1; bits <= 2; bits++ {
		b := base(t, bits, 2)
		for _, a := range tried() {
			from, to := b.calls(a)
			for at := from; at < to; at += 1 + (bits-1)*11 {
				for _, bytes := range []int{0, 1 + at%90, 1 << 40} {
					cut := api.Trouble{At: at, Kind: api.TrCut, Bytes: bytes}
					if got := b.again(room, cut).bears(a, cut); got != refused(api.ErrOff) {
						t.Fatalf("%s: power off at %d of %d: %+v", a.what, at, to, got)
					}
				}
			}
		}
	}
}

// TestEachRoom: with each number of free blocks, from none to enough. G7, W6.
func TestEachRoom(t *testing.T) {
	t.Parallel()
	for bits := 1; bits <= 2; bits++ {
		b := base(t, bits, 2)
		used := bench.BlocksIn(b.d.State())
		for _, a := range tried() {
			calm := b.again(room)
			want := calm.does(a)
			full := 0
			most := calm.d.Counts().Most + 12
			for blocks := used; blocks <= most; blocks++ {
				got := b.again(blocks).bears(a)
				if got == refused(api.ErrFull) {
					full++
				} else if got != want {
					t.Fatalf("%s, %d blocks: %+v, want %+v", a.what, blocks, got, want)
				}
				if blocks == most && got != want {
					t.Errorf("%s: %d blocks are enough: %+v", a.what, blocks, got)
				}
			}
			if want.fault.Code == api.OK && full == 0 {
				t.Errorf("%s: never refused for room", a.what)
			}
		}
	}
}

// TestTurnedBits: of each block of each file; each call answers right or ErrSpoilt. W8.
func TestTurnedBits(t *testing.T) {
	t.Parallel()
	const k = 2
	b := base(t, 2, k)
	spoilt, right := map[string]int{}, map[string]int{}
	turn := 0
	for _, f := range b.d.State().Files {
		for i := range f.Blocks {
			for bit := 0; bit < 8*32*(k+1); bit += 1 + turn%37 {
				turn++
				for j, a := range tried() {
					if (j+turn)%5 != 0 {
						continue
					}
					r := b.again(room)
					want, _ := r.says(a)
					r.d.Spoil(f.Name, i, bit)
					got, h := a.do(r.e)
					switch {
					case got == refused(api.ErrSpoilt) && h == 0:
						spoilt[a.what]++
					case got == want && got.made == (h != 0):
						right[a.what]++
					default:
						t.Fatalf("%s, bit %d of block %d of %s: %+v, want %+v", a.what, bit, i, f.Name, got, want)
					}
				}
			}
		}
	}
	for _, a := range tried() {
		if spoilt[a.what] == 0 || right[a.what] == 0 {
			t.Errorf("%s: %d times spoilt, %d times right", a.what, spoilt[a.what], right[a.what])
		}
	}
}

// oddFiles are what a handle's file may be on a disk that was made by hand, over four levels, or others.
func oddFiles() map[string][]api.Rec {
	out := map[string][]api.Rec{
		"no records":       nil,
		"no end":           {{1, 2, 3, 4}},
		"two levels":       bench.Canon(2, bench.Number(2, 6)),
		"two levels, true": bench.Canon(2, bench.Number(2, 15)),
		"six levels":       bench.Canon(6, bench.Number(6, 0x6a35)),
		"no levels":        {bench.End(0, api.True, 0)},
		"many levels":      {bench.End(65536, api.True, 0)},
		"far below":        {{uint64(bench.At(9, 0)), uint64(api.False), uint64(api.True)}, bench.End(10, bench.At(9, 0), 1)},
	}
	for i, list := range bench.Gaps() {
		out["gap "+fmt.Sprint(i)] = list
	}
	d := bench.Dice(9)
	for i := range 60 {
		out["bent "+fmt.Sprint(i)] = d.Bend(bench.Canon(4, d.Table(4)))
		out["any "+fmt.Sprint(i)] = d.AnyFile(4)
	}
	return out
}

// TestOddFiles: steps and sets that are no well-formed files: each call ends, and where it is refused all is as before. G1, G8.
func TestOddFiles(t *testing.T) {
	t.Parallel()
	const k = 2
	b := base(t, 2, k)
	for what, list := range oddFiles() {
		for _, those := range [][]int{{1}, {2}, {3}, {2, 3}, {1, 2, 3}} {
			st := b.d.State()
			for _, h := range those {
				name, _ := b.e.File(h)
				st = inPlace(st, name, blocksOf(t, list, st.Block))
			}
			for _, a := range tried() {
				r := b.on(st, room)
				got, h := a.do(r.e)
				if got.fault != (api.Fault{}) && (got != refused(got.fault.Code) || h != 0 || !same(r.d.State(), st)) {
					t.Fatalf("%s: %s: %+v, the disk holds %v", what, a.what, got, r.d.Names())
				}
				if _, no := engine.Open(r.d, r.o); no != api.OK {
					t.Fatalf("%s: %s: Open: %d", what, a.what, no)
				}
			}
		}
	}
}

// inPlace is a state in which a file has other blocks.
func inPlace(st api.State, name string, blocks [][]byte) api.State {
	out := api.State{Block: st.Block}
	for _, f := range st.Files {
		if f.Name == name {
			f.Blocks = blocks
		}
		out.Files = append(out.Files, f)
	}
	return out
}
