package sorter_test

import (
	"reflect"
	"slices"
	"strconv"
	"testing"

	"strata/api"
	"strata/disk"
	"strata/purse"
	"strata/sorter"
	"strata/tape"
)

var plain = api.Order{0, 1, 2, 3}

// dice gives numbers that are the same in each run.
type dice uint64

func (r *dice) below(n int) int {
	*r = *r*6364136223846793005 + 1442695040888963407
	return int(uint64(*r)>>33) % n
}

// list is n records with words below few.
func (r *dice) list(n, few int) []api.Rec {
	var l []api.Rec
	for range n {
		var x api.Rec
		for i := range x {
			x[i] = uint64(r.below(few))
			if r.below(8) == 0 {
				x[i] = ^x[i] // above all numbers with a sign
			}
		}
		l = append(l, x)
	}
	return l
}

// firsts are records by their first words, the others 0.
func firsts(words ...uint64) []api.Rec {
	var l []api.Rec
	for _, w := range words {
		l = append(l, api.Rec{w})
	}
	return l
}

// before tells whether a is below b, by means of its own.
func before(o api.Order, a, b api.Rec) bool {
	for _, place := range o {
		if a[place] != b[place] {
			return a[place] < b[place]
		}
	}
	return false
}

// model is what a sort of these lists, or a merge of them, must give: each record goes ahead of the first one that it is below.
func model(o api.Order, once bool, lists ...[]api.Rec) []api.Rec {
	var out []api.Rec
	for _, r := range slices.Concat(lists...) {
		if once && slices.Contains(out, r) {
			continue
		}
		at := 0
		for at < len(out) && !before(o, r, out[at]) {
			at++
		}
		out = slices.Insert(out, at, r)
	}
	return out
}

// call is a Sort of its one tape, or a Merge of all.
type call struct {
	merge bool
	in    []string
	out   string
	kind  int
	order api.Order
	once  bool
	share int
}

func (c call) do(k *tape.Desk) api.Errno {
	if c.merge {
		return sorter.Merge(k, c.in, c.out, c.kind, c.order, c.once, c.share)
	}
	return sorter.Sort(k, c.in[0], c.out, c.kind, c.order, c.once, c.share)
}

// bench is a desk at a disk that held something ahead of the call that is tried there.
type bench struct {
	*testing.T
	*tape.Desk
	was  api.State
	hand int // records that are out of the purse by hand
}

// mount is a bench with so many records free; some more are out by hand.
func mount(t *testing.T, was api.State, free int, troubles ...api.Trouble) bench {
	t.Helper()
	return mountSmall(t, was, free, 1<<30, troubles...)
}

// mountSmall is the same, with so many blocks free.
func mountSmall(t *testing.T, was api.State, free, room int, troubles ...api.Trouble) bench {
	t.Helper()
	for _, f := range was.Files {
		room += len(f.Blocks)
	}
	d, e := disk.Mount(was, api.Setup{Block: was.Block, Blocks: room, Troubles: troubles})
	if e != api.OK {
		t.Fatalf("Mount: %d", e)
	}
	const hand = 5
	p, _ := purse.New(free + hand)
	p.Take(hand)
	k, e := tape.NewDesk(d, p)
	if e != api.OK {
		t.Fatalf("NewDesk: %d", e)
	}
	return bench{t, k, was, hand}
}

// put lays a tape, with a purse of its own.
func put(t *testing.T, d *disk.Disk, name string, kind int, list []api.Rec) {
	t.Helper()
	p, _ := purse.New(api.MaxBlock)
	k, _ := tape.NewDesk(d, p)
	w, e := k.Write(name, kind)
	if e != api.OK {
		t.Fatalf("Write(%q): %d", name, e)
	}
	for _, r := range list {
		if e := w.Put(r); e != api.OK {
			t.Fatalf("Put: %d", e)
		}
	}
	if e := w.Close(); e != api.OK {
		t.Fatalf("Close: %d", e)
	}
}

// input is the name of tape i of a state that holds has made.
func input(i int) string { return "in" + strconv.Itoa(i) }

// inputs are the names of n of them.
func inputs(n int) []string {
	var l []string
	for i := range n {
		l = append(l, input(i))
	}
	return l
}

// holds is the state of a disk with these tapes, and with files that have nothing to do with them: an open one, and some with names as a temporary may have them.
func holds(t *testing.T, size, kind int, tapes ...[]api.Rec) api.State {
	t.Helper()
	d, e := disk.New(api.Setup{Block: size, Blocks: 1 << 30})
	if e != api.OK {
		t.Fatalf("disk.New: %d", e)
	}
	for i, list := range tapes {
		put(t, d, input(i), kind, list)
	}
	for _, name := range []string{"tmp-1", "tmp-2-0", "tmp-2-1", "tmp-3", "tmp-4-", "tmp-5.0"} {
		put(t, d, name, api.KindTable, firsts(4, 3, 2, 1))
	}
	d.Create("open")
	d.Append("open", make([]byte, size))
	return d.State()
}

// without is a state but for the file of that name; whether there is one, sealed.
func without(st api.State, name string) (api.State, bool) {
	i := slices.IndexFunc(st.Files, func(f api.File) bool { return f.Name == name })
	if i < 0 {
		return st, false
	}
	sealed := st.Files[i].Sealed
	st.Files = slices.Delete(st.Files, i, i+1)
	return st, sealed
}

// read is a tape of a state.
func read(t *testing.T, st api.State, name string, kind int) []api.Rec {
	t.Helper()
	b := mount(t, st, api.MaxBlock)
	var l []api.Rec
	for r, e := range b.All(name, kind) {
		if e != api.OK {
			t.Fatalf("All(%q, %d): %d", name, kind, e)
		}
		l = append(l, r)
	}
	return l
}

// asBefore fails the test unless files and purse are as they were.
func (b bench) asBefore(what any) {
	b.Helper()
	if st := b.Disk().State(); !reflect.DeepEqual(st, b.was) {
		b.Fatalf("%+v: the disk holds %s", what, names(st))
	}
	b.purse(what)
}

// purse fails the test unless just what was out by hand is out.
func (b bench) purse(what any) {
	b.Helper()
	if used := b.Purse().Used(); used != b.hand {
		b.Fatalf("%+v: %d records are out of the purse, want %d", what, used, b.hand)
	}
}

// made fails the test unless out is a sealed tape of these records, and all else as it was.
func (b bench) made(what any, out string, kind int, want []api.Rec) {
	b.Helper()
	st := b.Disk().State()
	list := read(b.T, st, out, kind)
	if !slices.Equal(list, want) {
		b.Fatalf("%+v: out is\n%v, want\n%v", what, list, want)
	}
	if rest, sealed := without(st, out); !sealed || !reflect.DeepEqual(rest, b.was) {
		b.Fatalf("%+v: sealed %v, beside it the disk holds %s", what, sealed, names(rest))
	}
	b.purse(what)
}

// stays fails the test unless the files that were there are as they were, whatever others there are.
func (b bench) stays(what any) {
	b.Helper()
	now := b.Disk().State()
	for _, f := range b.was.Files {
		if !slices.ContainsFunc(now.Files, func(g api.File) bool { return reflect.DeepEqual(f, g) }) {
			b.Fatalf("%+v: %q is not as it was", what, f.Name)
		}
	}
	b.purse(what)
}

func names(st api.State) string {
	text := ""
	for _, f := range st.Files {
		text += f.Name + " (" + strconv.Itoa(len(f.Blocks)) + ") "
	}
	return text
}
