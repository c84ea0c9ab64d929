package pqueue_test

import (
	"reflect"
	"slices"
	"strings"
	"testing"

	"strata/api"
	"strata/disk"
	"strata/pqueue"
	"strata/purse"
	"strata/tape"
)

var plain = api.Order{0, 1, 2, 3}

// dice gives numbers that are the same in each run.
type dice uint64

func (r *dice) below(n int) int {
	*r = *r*6364136223846793005 + 1442695040888963407
	return int(uint64(*r)>>33) % n
}

// rec is a record with words below few.
func (r *dice) rec(few int) api.Rec {
	var x api.Rec
	for i := range x {
		x[i] = uint64(r.below(few))
		if r.below(8) == 0 {
			x[i] = ^x[i] // above all numbers with a sign
		}
	}
	return x
}

// compare holds two records against each other, by means of its own.
func compare(o api.Order, a, b api.Rec) int {
	for _, place := range o {
		if a[place] < b[place] {
			return -1
		}
		if a[place] > b[place] {
			return 1
		}
	}
	return 0
}

// model is what a queue must be: all of its records in one list that rises.
type model struct {
	order api.Order
	list  []api.Rec
	last  []api.Rec // what was taken out last, if something was
}

func (m *model) push(r api.Rec) api.Errno {
	if len(m.last) > 0 && compare(m.order, r, m.last[0]) < 0 {
		return api.ErrBack
	}
	at, _ := slices.BinarySearchFunc(m.list, r, func(a, b api.Rec) int { return compare(m.order, a, b) })
	m.list = slices.Insert(m.list, at, r)
	return api.OK
}

func (m *model) peek() (api.Rec, api.Errno) {
	if len(m.list) == 0 {
		return api.Rec{}, api.ErrNone
	}
	return m.list[0], api.OK
}

func (m *model) pop() (api.Rec, api.Errno) {
	r, e := m.peek()
	if e == api.OK {
		m.list = m.list[1:]
		m.last = []api.Rec{r}
	}
	return r, e
}

// bench is a desk at a disk that held something ahead of the queue that is tried there.
type bench struct {
	*testing.T
	*tape.Desk
	was  api.State
	hand int // records that are out of the purse by hand
}

// holds is a disk with files that have nothing to do with a queue: tapes, an open file, and some with names as a temporary may have them.
func holds(t *testing.T, size int) api.State {
	t.Helper()
	d, e := disk.New(api.Setup{Block: size, Blocks: 1 << 30})
	if e != api.OK {
		t.Fatalf("disk.New: %d", e)
	}
	p, _ := purse.New(api.MaxBlock)
	k, _ := tape.NewDesk(d, p)
	for _, name := range []string{"a", "tmp-2", "tmp-3-0", "tmp-4", "tmp-6.", "tmp-"} {
		w, _ := k.Write(name, api.KindRaw)
		for i := range 3 {
			w.Put(api.Rec{uint64(i)})
		}
		if e := w.Close(); e != api.OK {
			t.Fatalf("%q: %d", name, e)
		}
	}
	d.Create("tmp-5")
	d.Append("tmp-5", make([]byte, size))
	return d.State()
}

// mount is a bench with so many records free; some more are out by hand.
func mount(t *testing.T, size, free int, troubles ...api.Trouble) bench {
	t.Helper()
	return mountSmall(t, size, free, 1<<30, troubles...)
}

// mountSmall is the same, with so many blocks free.
func mountSmall(t *testing.T, size, free, room int, troubles ...api.Trouble) bench {
	t.Helper()
	was := holds(t, size)
	for _, f := range was.Files {
		room += len(f.Blocks)
	}
	d, e := disk.Mount(was, api.Setup{Block: size, Blocks: room, Troubles: troubles})
	if e != api.OK {
		t.Fatalf("Mount: %d", e)
	}
	const hand = 5
	p, _ := purse.New(free + hand)
	p.Take(hand)
	k, e := tape.NewDesk(d, p)
	if e != api.OK {
		t.Fatalf("NewDesk: %d", e)
	}
	return bench{t, k, was, hand}
}

// own are the files that were not there ahead.
func (b bench) own() []api.File {
	var out []api.File
	for _, f := range b.Disk().State().Files {
		if !slices.ContainsFunc(b.was.Files, func(g api.File) bool { return f.Name == g.Name }) {
			out = append(out, f)
		}
	}
	return out
}

// stays fails the test unless the files that were there are as they were, and all others are temporaries as a desk names them.
func (b bench) stays(what any) {
	b.Helper()
	own := b.own()
	for _, f := range own {
		if rest, ok := strings.CutPrefix(f.Name, "tmp-"); !ok || rest == "" || strings.Trim(rest, "0123456789") != "" {
			b.Fatalf("%+v: a file %q", what, f.Name)
		}
	}
	st := b.Disk().State()
	st.Files = slices.DeleteFunc(st.Files, func(f api.File) bool {
		return slices.ContainsFunc(own, func(g api.File) bool { return f.Name == g.Name })
	})
	if !reflect.DeepEqual(st, b.was) {
		b.Fatalf("%+v: another file than the queue's is not as it was", what)
	}
}

// asBefore fails the test unless files and purse are as they were.
func (b bench) asBefore(what any) {
	b.Helper()
	if st := b.Disk().State(); !reflect.DeepEqual(st, b.was) {
		b.Fatalf("%+v: the disk holds %d files, want %d", what, len(st.Files), len(b.was.Files))
	}
	b.out(what, 0)
}

// out fails the test unless just so many records are out beside those by hand.
func (b bench) out(what any, n int) {
	b.Helper()
	if used := b.Purse().Used(); used != b.hand+n {
		b.Fatalf("%+v: %d records are out of the purse, want %d", what, used, b.hand+n)
	}
	if peak := b.Purse().Peak(); peak > b.Purse().Limit() {
		b.Fatalf("%+v: peak %d", what, peak)
	}
}

// trial is a queue beside its model: each call is held against that, and against what is promised of a queue at any time.
type trial struct {
	bench
	*pqueue.Queue
	model
	share  int
	pushed int
	dead   api.Errno
	start  api.Counts
}

func (b bench) queue(o api.Order, share int) *trial {
	b.Helper()
	start := b.Disk().Counts()
	q, e := pqueue.New(b.Desk, o, share)
	if e != api.OK || q == nil {
		b.Fatalf("New(%v, %d): %d", o, share, e)
	}
	x := &trial{bench: b, Queue: q, model: model{order: o}, share: share, start: start}
	if b.Disk().Counts() != start {
		b.Fatal("New has asked the disk for something")
	}
	x.look("New")
	return x
}

// up is n divided by k, rounded up.
func up(n, k int) int { return (n + k - 1) / k }

// look holds what is true of a queue at rest. P6.5, P6.7, P6.11.
func (x *trial) look(what any) {
	x.Helper()
	blocks := x.Disk().Counts().Used - x.start.Used
	if x.Len() != len(x.list) {
		x.Fatalf("%+v: Len is %d, want %d", what, x.Len(), len(x.list))
	}
	if used := x.Purse().Used(); used != x.hand+x.share {
		x.Fatalf("%+v: %d records are out of the purse", what, used)
	}
	if peak := x.Purse().Peak(); peak != x.hand+x.share {
		x.Fatalf("%+v: peak %d", what, peak)
	}
	if x.dead == api.OK && x.Len() > x.share+x.K()*blocks {
		x.Fatalf("%+v: it holds %d records, with %d blocks", what, x.Len(), blocks)
	}
}

// notGreedy holds what the disk was asked for against the records that have been pushed. P6.10.
func (x *trial) notGreedy(what any) {
	x.Helper()
	k, n := x.K(), x.Disk().Counts()
	if most := n.Most - x.start.Used; most > 4*up(x.pushed, k)+8 {
		x.Fatalf("%+v: %d blocks at one time, of %d records", what, most, x.pushed)
	}
	traffic := (up(x.pushed, k) + 8) * (up(x.pushed, x.share) + 2)
	if reads, appends := n.Reads-x.start.Reads, n.Appends-x.start.Appends; reads > traffic || appends > traffic {
		x.Fatalf("%+v: %d reads and %d appends, of %d records", what, reads, appends, x.pushed)
	}
}

// step is a Push, a Pop or a Peek.
type step struct {
	kind int
	rec  api.Rec
}

const (
	push = iota
	pop
	peek
)

func (s step) do(q *pqueue.Queue) (api.Rec, api.Errno) {
	switch s.kind {
	case push:
		return api.Rec{}, q.Push(s.rec)
	case pop:
		return q.Pop()
	}
	return q.Peek()
}

// want is what the model answers; nothing is done yet.
func (x *trial) want(s step) (api.Rec, api.Errno) {
	if x.dead != api.OK {
		return api.Rec{}, x.dead
	}
	if s.kind != push {
		return x.model.peek()
	}
	if len(x.last) > 0 && compare(x.order, s.rec, x.last[0]) < 0 {
		return api.Rec{}, api.ErrBack
	}
	return api.Rec{}, api.OK
}

// do makes a step, which the disk may refuse just if it has cause.
func (x *trial) do(s step) api.Errno {
	x.Helper()
	before := x.Disk().Counts()
	rec, e := s.do(x.Queue)
	want, f := x.want(s)
	after := x.Disk().Counts()
	switch {
	case e == f && rec == want:
	case x.dead == api.OK && f == api.OK && rec == (api.Rec{}) && x.cause(e, before, after):
		x.dead = e
	default:
		x.Fatalf("%+v: %v, %d, want %v, %d", s, rec, e, want, f)
	}
	if f != api.OK && after != before {
		x.Fatalf("%+v: refused, it has asked the disk for something", s)
	}
	x.notGreedy(s) // with the pushes ahead of this call
	if e == api.OK {
		x.accept(s)
	}
	x.look(s)
	return e
}

// accept brings the model where a step has brought the queue.
func (x *trial) accept(s step) {
	switch s.kind {
	case push:
		x.model.push(s.rec)
		x.pushed++
	case pop:
		x.model.pop()
	}
}

// cause tells whether the disk has refused something with that. P6.9.
func (x *trial) cause(e api.Errno, before, after api.Counts) bool {
	switch e {
	case api.ErrFault:
		return after.Faults == before.Faults+1
	case api.ErrFull:
		return after.Full == before.Full+1
	case api.ErrOff:
		return !x.Disk().On()
	}
	return false
}

// run makes the steps, until one is refused by the disk.
func (x *trial) run(steps []step) api.Errno {
	x.Helper()
	for _, s := range steps {
		if x.do(s); x.dead != api.OK {
			return x.dead
		}
	}
	return api.OK
}

// drain pops all that is in it.
func (x *trial) drain() api.Errno {
	x.Helper()
	for range len(x.list) {
		if x.do(step{kind: pop}); x.dead != api.OK {
			return x.dead
		}
	}
	x.do(step{kind: pop})
	x.do(step{kind: peek})
	return api.OK
}

// close closes the queue and looks at what is left, and at every call behind it. P6.6.
func (x *trial) close(what any) {
	x.Helper()
	n := x.Len()
	e := x.Close()
	if on := x.Disk().On(); on && e != api.OK || !on && e != api.ErrOff {
		x.Fatalf("%+v: power %v, Close: %d", what, on, e)
	}
	if e == api.OK {
		x.asBefore(what)
	} else {
		x.stays(what)
		x.out(what, 0)
	}
	counts := x.Disk().Counts()
	for range 2 {
		if e := x.Close(); e != api.ErrDone {
			x.Fatalf("%+v: Close behind Close: %d", what, e)
		}
		for _, s := range []step{{push, api.Rec{}}, {push, api.Rec{^uint64(0)}}, {pop, api.Rec{}}, {peek, api.Rec{}}} {
			if rec, e := s.do(x.Queue); rec != (api.Rec{}) || e != api.ErrDone {
				x.Fatalf("%+v: %+v behind Close: %v, %d", what, s, rec, e)
			}
		}
		if x.Len() != n {
			x.Fatalf("%+v: Len behind Close is %d, ahead of it %d", what, x.Len(), n)
		}
	}
	x.out(what, 0)
	if x.Disk().Counts() != counts {
		x.Fatalf("%+v: a closed queue has asked the disk for something", what)
	}
}
