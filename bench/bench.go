// Package bench is what the tests of whole operations share: a desk at a disk that holds something, what must be so behind a call, and the troubles that may befall it. No layer uses it.
package bench

import (
	"bytes"
	"slices"

	"strata/api"
	"strata/disk"
	"strata/purse"
	"strata/tape"
)

// T is what is asked of a test. (Package testing is none of those that the program is written with.)
type T interface {
	Helper()
	Errorf(format string, args ...any)
	Fatalf(format string, args ...any)
}

// room is so much that no disk here is full.
const room = 1 << 30

// Strip is a tape that lies on a disk.
type Strip struct {
	Name string
	Kind int
	List []api.Rec
}

// Files are node files, f, g and so on.
func Files(lists ...[]api.Rec) []Strip {
	var out []Strip
	for i, list := range lists {
		out = append(out, Strip{string(rune('f' + i)), api.KindNodes, list})
	}
	return out
}

// others are tapes that no call has to do with; some have such names as temporaries may have.
func others() []Strip {
	var out []Strip
	for _, name := range []string{"raw", "tmp-1", "tmp-3", "tmp-4-0", "tmp-2.i", "tmp-5.o"} {
		out = append(out, Strip{name, api.KindRaw, []api.Rec{{1}, {2}, {3}}})
	}
	return out
}

// Holds is a disk with these tapes, and with files that have nothing to do with them; one of those is not sealed.
func Holds(t T, k int, tapes ...Strip) api.State {
	t.Helper()
	d, e := disk.New(api.Setup{Block: 32 * (k + 1), Blocks: room})
	if e != api.OK {
		t.Fatalf("disk.New: %d", e)
	}
	p, _ := purse.New(k)
	desk, _ := tape.NewDesk(d, p)
	for _, s := range append(others(), tapes...) {
		w, e := desk.Write(s.Name, s.Kind)
		if e != api.OK {
			t.Fatalf("%q: %d", s.Name, e)
		}
		for _, r := range s.List {
			w.Put(r)
		}
		if e := w.Close(); e != api.OK {
			t.Fatalf("%q: %d", s.Name, e)
		}
	}
	d.Create("open")
	d.Append("open", make([]byte, 32*(k+1)))
	return d.State()
}

// Bench is a desk at a disk that held something ahead of what is tried there.
type Bench struct {
	T
	*tape.Desk
	Was  api.State
	Hand int // records that are out of the purse by hand
}

// Mount is a bench with so many records free; some more are out by hand.
func Mount(t T, was api.State, free int, troubles ...api.Trouble) Bench {
	t.Helper()
	return MountSmall(t, was, free, room, troubles...)
}

// MountSmall is the same, with so many blocks free.
func MountSmall(t T, was api.State, free, blocks int, troubles ...api.Trouble) Bench {
	t.Helper()
	d, e := disk.Mount(was, api.Setup{Block: was.Block, Blocks: blocks + BlocksIn(was), Troubles: troubles})
	if e != api.OK {
		t.Fatalf("Mount: %d", e)
	}
	const hand = 5
	p, _ := purse.New(free + hand)
	p.Take(hand)
	k, e := tape.NewDesk(d, p)
	if e != api.OK {
		t.Fatalf("NewDesk: %d", e)
	}
	return Bench{t, k, was, hand}
}

// Lie is a bench on which these tapes lie, with what a whole operation needs.
func Lie(t T, k int, tapes ...Strip) Bench {
	t.Helper()
	return Mount(t, Holds(t, k, tapes...), api.LeastK*k)
}

// BlocksIn is how many blocks a disk uses.
func BlocksIn(s api.State) int {
	n := 0
	for _, f := range s.Files {
		n += len(f.Blocks)
	}
	return n
}

func sameFile(a, b api.File) bool {
	return a.Name == b.Name && a.Sealed == b.Sealed && slices.EqualFunc(a.Blocks, b.Blocks, bytes.Equal)
}

func sameState(a, b api.State) bool {
	return a.Block == b.Block && slices.EqualFunc(a.Files, b.Files, sameFile)
}

// Out fails the test unless just those records are out that are by hand.
func (b Bench) Out(what any) {
	b.Helper()
	if used := b.Purse().Used(); used != b.Hand {
		b.Fatalf("%+v: %d records are out of the purse, want %d", what, used, b.Hand)
	}
	if peak := b.Purse().Peak(); peak > b.Purse().Limit() {
		b.Fatalf("%+v: peak %d", what, peak)
	}
}

// AsBefore fails the test unless files and purse are as they were.
func (b Bench) AsBefore(what any) {
	b.Helper()
	if !sameState(b.Disk().State(), b.Was) {
		b.Fatalf("%+v: the disk holds %v, want %d files as they were", what, b.Disk().Names(), len(b.Was.Files))
	}
	b.Out(what)
}

// Stays fails the test unless the files that were there are as they were. What else is there.
func (b Bench) Stays(what any) []api.File {
	b.Helper()
	st := b.Disk().State()
	var more []api.File
	st.Files = slices.DeleteFunc(st.Files, func(f api.File) bool {
		other := !slices.ContainsFunc(b.Was.Files, func(g api.File) bool { return f.Name == g.Name })
		if other {
			more = append(more, f)
		}
		return other
	})
	if !sameState(st, b.Was) {
		b.Fatalf("%+v: a file that was there is not as it was", what)
	}
	b.Out(what)
	return more
}

// Made fails the test unless all is as it was but that these tapes, by their names, are there, sealed, with their records.
func (b Bench) Made(what any, tapes ...Strip) {
	b.Helper()
	more := b.Stays(what)
	if !slices.EqualFunc(more, tapes, func(f api.File, s Strip) bool { return f.Name == s.Name && f.Sealed }) {
		b.Fatalf("%+v: the disk holds %v", what, b.Disk().Names())
	}
	for _, s := range tapes {
		if got := b.Records(s.Name, s.Kind); !slices.Equal(got, s.List) {
			b.Fatalf("%+v: %s is\n%v, want\n%v", what, s.Name, got, s.List)
		}
	}
}

// Still fails the test if f makes a numbered call.
func (b Bench) Still(what any, f func()) {
	b.Helper()
	was := b.Disk().Counts()
	if f(); b.Disk().Counts() != was {
		b.Fatalf("%+v: it has asked the disk for something", what)
	}
}

// Is fails the test unless an answer is that one.
func (b Bench) Is(what any, got, want api.Errno) {
	b.Helper()
	if got != want {
		b.Fatalf("%+v: %d, want %d", what, got, want)
	}
}

// Records are those of a tape, by the tape's own reading, on another disk: no trouble befalls it there.
func (b Bench) Records(name string, kind int) []api.Rec {
	b.Helper()
	d, _ := disk.Mount(b.Disk().State(), api.Setup{Block: b.Disk().Block(), Blocks: room})
	p, _ := purse.New(b.K())
	k, _ := tape.NewDesk(d, p)
	var list []api.Rec
	for r, e := range k.All(name, kind) {
		if e != api.OK {
			b.Fatalf("%q: %d", name, e)
		}
		list = append(list, r)
	}
	return list
}
