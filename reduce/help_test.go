package reduce_test

import (
	"reflect"
	"slices"
	"testing"

	"strata/api"
	"strata/disk"
	"strata/purse"
	"strata/tape"
)

// The leaves, as the chapter writes them.
const (
	F = api.False
	T = api.True
)

// at is the pointer to a node.
func at(level, id int) api.Ptr { return api.Ptr(level<<40 + id) }

// end is what ends a node file, or arcs.
func end(n int, root api.Ptr, c int) api.Rec {
	return api.Rec{api.Mark, uint64(n), uint64(root), uint64(c)}
}

// dice gives numbers that are the same in each run.
type dice uint64

func (r *dice) below(n int) int {
	*r = *r*6364136223846793005 + 1442695040888963407
	return int(uint64(*r)>>33) % n
}

// table is a function over n levels: its truth at each assignment, level 0 the highest bit of its number.
func (r *dice) table(n int) []bool {
	out := make([]bool, 1<<n)
	for i := range out {
		out[i] = r.below(2) == 1
	}
	return out
}

// thin is a function over n levels that hangs on few of them.
func (r *dice) thin(n int) []bool {
	out := make([]bool, 1<<n)
	mask, bits := r.below(1<<n)&r.below(1<<n), r.table(n)
	for i := range out {
		out[i] = bits[i&mask]
	}
	return out
}

// strip is a tape that lies on a disk.
type strip struct {
	name string
	kind int
	list []api.Rec
}

// arcs are the two tapes of the name a.
func arcs(inner, outer []api.Rec) []strip {
	return []strip{{"a.i", api.KindInner, inner}, {"a.o", api.KindOuter, outer}}
}

// holds is a disk with these tapes, and with files that have nothing to do with them: one that is open, some with names as a temporary may have them.
func holds(t *testing.T, k int, tapes ...strip) api.State {
	t.Helper()
	d, e := disk.New(api.Setup{Block: 32 * (k + 1), Blocks: 1 << 30})
	if e != api.OK {
		t.Fatalf("disk.New: %d", e)
	}
	p, _ := purse.New(k)
	desk, _ := tape.NewDesk(d, p)
	other := []api.Rec{{1}, {2}, {3}}
	for _, s := range append(slices.Clone(tapes), strip{"raw", api.KindRaw, other}, strip{"tmp-1", api.KindRaw, other}, strip{"tmp-3", api.KindRaw, other}, strip{"tmp-4-0", api.KindRaw, other}) {
		w, e := desk.Write(s.name, s.kind)
		if e != api.OK {
			t.Fatalf("%q: %d", s.name, e)
		}
		for _, r := range s.list {
			w.Put(r)
		}
		if e := w.Close(); e != api.OK {
			t.Fatalf("%q: %d", s.name, e)
		}
	}
	d.Create("open")
	d.Append("open", make([]byte, 32*(k+1)))
	return d.State()
}

// bench is a desk at a disk that held something ahead of what is tried there.
type bench struct {
	*testing.T
	*tape.Desk
	was  api.State
	hand int // records that are out of the purse by hand
}

// mount is a bench with so many records free; some more are out by hand.
func mount(t *testing.T, was api.State, free int, troubles ...api.Trouble) bench {
	t.Helper()
	return mountSmall(t, was, free, 1<<30, troubles...)
}

// mountSmall is the same, with so many blocks free.
func mountSmall(t *testing.T, was api.State, free, room int, troubles ...api.Trouble) bench {
	t.Helper()
	d, e := disk.Mount(was, api.Setup{Block: was.Block, Blocks: room + blocksIn(was), Troubles: troubles})
	if e != api.OK {
		t.Fatalf("Mount: %d", e)
	}
	const hand = 5
	p, _ := purse.New(free + hand)
	p.Take(hand)
	k, e := tape.NewDesk(d, p)
	if e != api.OK {
		t.Fatalf("NewDesk: %d", e)
	}
	return bench{t, k, was, hand}
}

func blocksIn(s api.State) int {
	n := 0
	for _, f := range s.Files {
		n += len(f.Blocks)
	}
	return n
}

// lie is a bench on which the two tapes of a lie, with what a whole operation needs.
func lie(t *testing.T, k int, g graph) bench {
	t.Helper()
	return mount(t, holds(t, k, arcs(g.tapes())...), api.LeastK*k)
}

// out fails the test unless just those records are out that are by hand.
func (b bench) out(what any) {
	b.Helper()
	if used := b.Purse().Used(); used != b.hand {
		b.Fatalf("%+v: %d records are out of the purse, want %d", what, used, b.hand)
	}
	if peak := b.Purse().Peak(); peak > b.Purse().Limit() {
		b.Fatalf("%+v: peak %d", what, peak)
	}
}

// asBefore fails the test unless files and purse are as they were.
func (b bench) asBefore(what any) {
	b.Helper()
	if st := b.Disk().State(); !reflect.DeepEqual(st, b.was) {
		b.Fatalf("%+v: the disk holds %v, want %d files as they were", what, b.Disk().Names(), len(b.was.Files))
	}
	b.out(what)
}

// stays fails the test unless the files that were there are as they were. What else is there.
func (b bench) stays(what any) []api.File {
	b.Helper()
	st := b.Disk().State()
	var others []api.File
	st.Files = slices.DeleteFunc(st.Files, func(f api.File) bool {
		other := !slices.ContainsFunc(b.was.Files, func(g api.File) bool { return f.Name == g.Name })
		if other {
			others = append(others, f)
		}
		return other
	})
	if !reflect.DeepEqual(st, b.was) {
		b.Fatalf("%+v: a file that was there is not as it was", what)
	}
	b.out(what)
	return others
}

// made fails the test unless all is as it was but that out is there, sealed, and is the tape of these records.
func (b bench) made(what any, out string, list []api.Rec) {
	b.Helper()
	others := b.stays(what)
	if len(others) != 1 || others[0].Name != out || !others[0].Sealed {
		b.Fatalf("%+v: the disk holds %v", what, b.Disk().Names())
	}
	if got := b.records(out, api.KindNodes); !slices.Equal(got, list) {
		b.Fatalf("%+v: the node file is\n%v, want\n%v", what, got, list)
	}
}

// still fails the test if f makes a numbered call.
func (b bench) still(what any, f func()) {
	b.Helper()
	was := b.Disk().Counts()
	if f(); b.Disk().Counts() != was {
		b.Fatalf("%+v: it has asked the disk for something", what)
	}
}

// is fails the test unless an answer is that one.
func (b bench) is(what any, got, want api.Errno) {
	b.Helper()
	if got != want {
		b.Fatalf("%+v: %d, want %d", what, got, want)
	}
}

// records are those of a tape, by the tape's own reading, on another disk: no trouble befalls it there.
func (b bench) records(name string, kind int) []api.Rec {
	b.Helper()
	d, _ := disk.Mount(b.Disk().State(), api.Setup{Block: b.Disk().Block(), Blocks: 1 << 30})
	p, _ := purse.New(b.K())
	k, _ := tape.NewDesk(d, p)
	list := []api.Rec{}
	for r, e := range k.All(name, kind) {
		if e != api.OK {
			b.Fatalf("%q: %d", name, e)
		}
		list = append(list, r)
	}
	return list
}
