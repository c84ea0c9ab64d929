package bench

import (
	"slices"

	"strata/api"
	"strata/recs"
	"strata/tape"
)

// Plot is a call over some tapes, and what it does where nothing befalls it.
type Plot struct {
	What  string
	K     int
	Tapes []Strip
	Do    func(k *tape.Desk) api.Errno
	Want  api.Errno
	Makes []Strip // if it is not refused; by their names
}

func (p Plot) holds(t T) api.State {
	t.Helper()
	return Holds(t, p.K, p.Tapes...)
}

// least is what must be free for it.
func (p Plot) least() int { return api.LeastK * p.K }

// Try makes the call and looks at all that is promised of it, whatever has befallen it. G7, As before.
func (p Plot) Try(b Bench, troubles ...api.Trouble) api.Errno {
	b.Helper()
	e := p.Do(b.Desk)
	n := b.Disk().Counts()
	what := []any{p.What, troubles, n, e}
	switch e {
	case api.OK:
		b.Made(what, p.Makes...)
	case api.ErrOff:
		b.Stays(what)
	default:
		b.AsBefore(what)
	}
	if (e == api.ErrOff) == b.Disk().On() {
		b.Fatalf("%v: power %v", what, b.Disk().On())
	}
	if n.Faults+n.Full > 1 || e != api.ErrOff && (n.Faults > 0) != (e == api.ErrFault) || e != api.ErrOff && (n.Full > 0) != (e == api.ErrFull) {
		b.Fatalf("%v: the answer and what the disk has refused are not the same", what)
	}
	return e
}

// calm makes the call where nothing befalls it; what the disk has counted.
func (p Plot) calm(t T, was api.State) api.Counts {
	t.Helper()
	b := Mount(t, was, p.least())
	if e := p.Try(b); e != p.Want {
		t.Fatalf("%s: %d, want %d", p.What, e, p.Want)
	}
	return b.Disk().Counts()
}

// EachCall lets a fault, or a loss of power, befall each numbered call. G7, As before.
func EachCall(t T, plots []Plot) {
	t.Helper()
	for _, p := range plots {
		was := p.holds(t)
		calls := p.calm(t, was).Calls
		kept := 0 // faults that befell a Delete
		for at := range calls {
			fault := api.Trouble{At: at, Kind: api.TrFault}
			if e := p.Try(Mount(t, was, p.least(), fault), fault); e == p.Want {
				kept++
			} else if e != api.ErrFault {
				t.Fatalf("%s: a fault at %d: %d", p.What, at, e)
			}
			for _, bytes := range []int{0, 1, 1 << 40} {
				cut := api.Trouble{At: at, Kind: api.TrCut, Bytes: bytes}
				if e := p.Try(Mount(t, was, p.least(), cut), cut); e != api.ErrOff {
					t.Fatalf("%s: power off at %d of %d: %d", p.What, at, calls, e)
				}
			}
		}
		if kept > 1+calls/3 {
			t.Errorf("%s: %d of %d faults are not told", p.What, kept, calls)
		}
	}
}

// BehindAFault, at every so many-th call, looks at what follows: from the first refusal on nothing is asked but Deletes, which no fault befalls; where the power goes off in one of them, that is told. G7.
func BehindAFault(t T, every int, plots []Plot) {
	t.Helper()
	off := 0
	for _, p := range plots {
		was := p.holds(t)
		calls := p.calm(t, was).Calls
		for at := 0; at < calls; at += every {
			off += p.behindAFault(t, was, at)
		}
	}
	if off == 0 {
		t.Errorf("the power never went off in a Delete")
	}
}

// behindAFault is that at one call; how often the power went off.
func (p Plot) behindAFault(t T, was api.State, at int) int {
	t.Helper()
	fault := api.Trouble{At: at, Kind: api.TrFault}
	b := Mount(t, was, p.least(), fault)
	if e := p.Try(b, fault); e != api.ErrFault {
		return 0 // it befell a Delete
	}
	off := 0
	last := b.Disk().Counts().Calls
	all := []api.Trouble{fault}
	for then := at + 1; then <= last; then++ {
		all = append(all, api.Trouble{At: then, Kind: api.TrFault})
		cut := api.Trouble{At: then, Kind: api.TrCut, Bytes: then % 2}
		e := p.Try(Mount(t, was, p.least(), fault, cut), fault, cut)
		switch {
		case then < last && e == api.ErrOff:
			off++
		case then < last || e != api.ErrFault:
			t.Fatalf("%s: a fault at %d of %d, power off at %d: %d", p.What, at, last, then, e)
		}
	}
	again := Mount(t, was, p.least(), all...)
	if e := p.Try(again, all...); e != api.ErrFault || again.Disk().Counts() != b.Disk().Counts() {
		t.Fatalf("%s: faults from %d on: %d, %+v", p.What, at, e, again.Disk().Counts())
	}
	return off
}

// FullDisk tries each number of free blocks from none to enough. G7.
func FullDisk(t T, plots []Plot) {
	t.Helper()
	for _, p := range plots {
		was := p.holds(t)
		most := p.calm(t, was).Most - BlocksIn(was)
		if most == 0 && len(p.Makes) > 0 {
			t.Fatalf("%s: no block is used", p.What)
		}
		for blocks := range most {
			if e := p.Try(MountSmall(t, was, p.least(), blocks)); e != api.ErrFull {
				t.Fatalf("%s: %d blocks free, %d are enough: %d", p.What, blocks, most, e)
			}
		}
		if e := p.Try(MountSmall(t, was, p.least(), most)); e != p.Want {
			t.Fatalf("%s: %d blocks free are enough: %d", p.What, most, e)
		}
	}
}

// BadBlocks lets each block of each tape be spoilt, of another kind, or none: the call tells so, or answers as if it were not. How often it answered what, by plot. G8, P4.17.
func BadBlocks(t T, plots []Plot) []map[api.Errno]int {
	t.Helper()
	var out []map[api.Errno]int
	for _, p := range plots {
		was := p.holds(t)
		told := map[api.Errno]int{}
		for _, s := range p.Tapes {
			for i, piece := range slices.Collect(slices.Chunk(s.List, p.K)) {
				for _, bad := range badBlocks(t, s.Kind, i, was.Block, piece) {
					e := p.Try(Mount(t, InPlace(was, s.Name, i, bad.block), p.least()))
					if told[e]++; e != bad.told && e != p.Want {
						t.Fatalf("%s: %s, block %d: %d, want %d", p.What, s.Name, i, e, bad.told)
					}
				}
			}
		}
		if len(p.Tapes) > 0 && (told[api.ErrSpoilt] == 0 || told[api.ErrSpoilt] != told[api.ErrKind] || told[api.ErrKind] != told[api.ErrForm]) {
			t.Errorf("%s: told %v", p.What, told)
		}
		out = append(out, told)
	}
	return out
}

// badBlock is a block that is none of its tape, and what is told of it.
type badBlock struct {
	told  api.Errno
	block []byte
}

// badBlocks are such as stand in the place of one that holds these records.
func badBlocks(t T, kind, i, size int, list []api.Rec) []badBlock {
	t.Helper()
	good, e := recs.Encode(kind, i, list, size)
	if e != api.OK {
		t.Fatalf("Encode: %d", e)
	}
	other, _ := recs.Encode(api.KindTable, i, list, size)
	spoilt := slices.Clone(good)
	spoilt[40] ^= 4
	none := slices.Clone(good[:size-4])
	none[4] = 2
	sum := recs.Sum(none)
	none = append(none, byte(sum), byte(sum>>8), byte(sum>>16), byte(sum>>24))
	return []badBlock{{api.ErrSpoilt, spoilt}, {api.ErrKind, other}, {api.ErrForm, none}}
}

// InPlace is a state in which a block of a tape is another one.
func InPlace(was api.State, name string, i int, block []byte) api.State {
	was.Files = slices.Clone(was.Files)
	for j, f := range was.Files {
		if f.Name == name {
			was.Files[j].Blocks = slices.Clone(f.Blocks)
			was.Files[j].Blocks[i] = block
		}
	}
	return was
}
