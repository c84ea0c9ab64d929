package nodes_test

import (
	"reflect"
	"slices"
	"testing"

	"strata/api"
	"strata/disk"
	"strata/nodes"
	"strata/purse"
	"strata/tape"
)

// The leaves, as the chapter writes them.
const (
	F = api.False
	T = api.True
)

// at is the pointer to a node.
func at(level, id int) api.Ptr { return api.Ptr(level<<40 + id) }

// rec is a node's record.
func rec(self, low, high api.Ptr) api.Rec {
	return api.Rec{uint64(self), uint64(low), uint64(high), 0}
}

// end is what ends a node file.
func end(n int, root api.Ptr, c int) api.Rec {
	return api.Rec{api.Mark, uint64(n), uint64(root), uint64(c)}
}

// The chapter's first example, x0 and x1; and x0 xor x1.
func and() []api.Rec {
	return []api.Rec{rec(at(1, 0), F, T), rec(at(0, 0), F, at(1, 0)), end(2, at(0, 0), 2)}
}

func xor() []api.Rec {
	return []api.Rec{rec(at(1, 0), F, T), rec(at(1, 1), T, F), rec(at(0, 0), at(1, 0), at(1, 1)), end(2, at(0, 0), 3)}
}

// dice gives numbers that are the same in each run.
type dice uint64

func (r *dice) below(n int) int {
	*r = *r*6364136223846793005 + 1442695040888963407
	return int(uint64(*r)>>33) % n
}

// table is a function over n levels: its truth at each assignment, level 0 the highest bit of its number.
func (r *dice) table(n int) []bool {
	out := make([]bool, 1<<n)
	for i := range out {
		out[i] = r.below(2) == 1
	}
	return out
}

// strip is a tape that lies on a disk.
type strip struct {
	name string
	kind int
	list []api.Rec
}

func strips(lists ...[]api.Rec) []strip {
	var out []strip
	for i, list := range lists {
		out = append(out, strip{string(rune('f' + i)), api.KindNodes, list})
	}
	return out
}

// holds is a disk with these tapes, and with files that have nothing to do with them: one that is open, some with names as a temporary may have them.
func holds(t *testing.T, k int, tapes ...strip) api.State {
	t.Helper()
	d, e := disk.New(api.Setup{Block: 32 * (k + 1), Blocks: 1 << 30})
	if e != api.OK {
		t.Fatalf("disk.New: %d", e)
	}
	p, _ := purse.New(k)
	desk, _ := tape.NewDesk(d, p)
	other := []api.Rec{{1}, {2}, {3}}
	for _, s := range append(tapes, strip{"raw", api.KindRaw, and()}, strip{"tmp-1", api.KindRaw, other}, strip{"tmp-3", api.KindRaw, other}) {
		w, e := desk.Write(s.name, s.kind)
		if e != api.OK {
			t.Fatalf("%q: %d", s.name, e)
		}
		for _, r := range s.list {
			w.Put(r)
		}
		if e := w.Close(); e != api.OK {
			t.Fatalf("%q: %d", s.name, e)
		}
	}
	d.Create("open")
	d.Append("open", make([]byte, 32*(k+1)))
	return d.State()
}

// bench is a desk at a disk that held something ahead of what is tried there.
type bench struct {
	*testing.T
	*tape.Desk
	was  api.State
	hand int // records that are out of the purse by hand
}

// mount is a bench with so many records free; some more are out by hand.
func mount(t *testing.T, was api.State, free int, troubles ...api.Trouble) bench {
	t.Helper()
	return mountSmall(t, was, free, 1<<30, troubles...)
}

// mountSmall is the same, with so many blocks free.
func mountSmall(t *testing.T, was api.State, free, room int, troubles ...api.Trouble) bench {
	t.Helper()
	for _, f := range was.Files {
		room += len(f.Blocks)
	}
	d, e := disk.Mount(was, api.Setup{Block: was.Block, Blocks: room, Troubles: troubles})
	if e != api.OK {
		t.Fatalf("Mount: %d", e)
	}
	const hand = 5
	p, _ := purse.New(free + hand)
	p.Take(hand)
	k, e := tape.NewDesk(d, p)
	if e != api.OK {
		t.Fatalf("NewDesk: %d", e)
	}
	return bench{t, k, was, hand}
}

// lie is a bench on which these tapes lie, f, g and so on, with what a whole operation needs.
func lie(t *testing.T, k int, lists ...[]api.Rec) bench {
	t.Helper()
	return mount(t, holds(t, k, strips(lists...)...), api.LeastK*k)
}

// out fails the test unless just so many records are out beside those by hand.
func (b bench) out(what any, n int) {
	b.Helper()
	if used := b.Purse().Used(); used != b.hand+n {
		b.Fatalf("%+v: %d records are out of the purse, want %d", what, used, b.hand+n)
	}
	if peak := b.Purse().Peak(); peak > b.Purse().Limit() {
		b.Fatalf("%+v: peak %d", what, peak)
	}
}

// asBefore fails the test unless files and purse are as they were.
func (b bench) asBefore(what any) {
	b.Helper()
	if st := b.Disk().State(); !reflect.DeepEqual(st, b.was) {
		b.Fatalf("%+v: the disk holds %d files, want %d as they were", what, len(st.Files), len(b.was.Files))
	}
	b.out(what, 0)
}

// stays fails the test unless the files that were there are as they were.
func (b bench) stays(what any) {
	b.Helper()
	st := b.Disk().State()
	st.Files = slices.DeleteFunc(st.Files, func(f api.File) bool {
		return !slices.ContainsFunc(b.was.Files, func(g api.File) bool { return f.Name == g.Name })
	})
	if !reflect.DeepEqual(st, b.was) {
		b.Fatalf("%+v: a file that was there is not as it was", what)
	}
}

// still fails the test if f makes a numbered call.
func (b bench) still(what any, f func()) {
	b.Helper()
	was := b.Disk().Counts()
	if f(); b.Disk().Counts() != was {
		b.Fatalf("%+v: it has asked the disk for something", what)
	}
}

// is fails the test unless an answer is that one.
func (b bench) is(what any, got, want api.Errno) {
	b.Helper()
	if got != want {
		b.Fatalf("%+v: %d, want %d", what, got, want)
	}
}

// records are those of a tape of nodes, by the tape's own reading.
func (b bench) records(name string) []api.Rec {
	b.Helper()
	p, _ := purse.New(b.K())
	k, _ := tape.NewDesk(b.Disk(), p)
	list := []api.Rec{}
	for r, e := range k.All(name, api.KindNodes) {
		if e != api.OK {
			b.Fatalf("%q: %d", name, e)
		}
		list = append(list, r)
	}
	return list
}

// ways are the two makers of cursors.
func ways() []func(*tape.Desk, string) (*nodes.Cursor, api.Errno) {
	return []func(*tape.Desk, string) (*nodes.Cursor, api.Errno){nodes.Up, nodes.Down}
}

// round is what a cursor gives until it gives none, and what it answers then.
func (b bench) round(c *nodes.Cursor) ([]api.Node, api.Errno) {
	b.Helper()
	var list []api.Node
	for {
		n, some, e := c.Next()
		if !some {
			if n != (api.Node{}) {
				b.Fatalf("a node beside false: %v", n)
			}
			return list, e
		}
		if e != api.OK {
			b.Fatalf("a node beside an error: %v, %d", n, e)
		}
		list = append(list, n)
	}
}

// build makes a node file by the calls of a builder.
func (b bench) build(name string, list []api.Rec) {
	b.Helper()
	last := list[len(list)-1]
	x, e := nodes.Begin(b.Desk, name, int(last[1]))
	b.is("Begin", e, api.OK)
	for _, r := range list[:len(list)-1] {
		if p, e := x.Add(int(r[0]>>40), api.Ptr(r[1]), api.Ptr(r[2])); p != api.Ptr(r[0]) || e != api.OK {
			b.Fatalf("Add of %v: %d, %d", r, p, e)
		}
	}
	b.is("Done", x.Done(api.Ptr(last[2])), api.OK)
}
