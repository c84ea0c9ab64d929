package pqueue_test

import (
	"slices"
	"testing"

	"strata/api"
	"strata/pqueue"
)

func first(n int) api.Rec { return api.Rec{uint64(n)} }

func TestExamples(t *testing.T) { // the chapter's
	b := mount(t, 64, 8)
	x := b.queue(plain, 8)
	q := x.Queue
	if r, e := q.Peek(); r != (api.Rec{}) || e != api.ErrNone {
		t.Errorf("Peek: %v, %d", r, e)
	}
	if r, e := q.Pop(); r != (api.Rec{}) || e != api.ErrNone {
		t.Errorf("Pop: %v, %d", r, e)
	}
	for _, n := range []int{5, 3, 9, 3} {
		if e := q.Push(first(n)); e != api.OK {
			t.Errorf("Push %d: %d", n, e)
		}
	}
	if q.Len() != 4 {
		t.Errorf("Len %d", q.Len())
	}
	pops := func(want ...int) {
		t.Helper()
		for _, n := range want {
			if r, e := q.Pop(); r != first(n) || e != api.OK {
				t.Errorf("Pop: %v, %d, want %d", r, e, n)
			}
		}
	}
	if r, e := q.Peek(); r != first(3) || e != api.OK {
		t.Errorf("Peek: %v, %d", r, e)
	}
	pops(3, 3, 5)
	if e := q.Push(first(4)); e != api.ErrBack || q.Len() != 1 {
		t.Errorf("Push 4: %d, Len %d", e, q.Len())
	}
	if e := q.Push(first(5)); e != api.OK {
		t.Errorf("Push 5: %d", e)
	}
	pops(5, 9)
	if _, e := q.Pop(); e != api.ErrNone {
		t.Errorf("Pop: %d", e)
	}
	for i := range 21 {
		if e := q.Push(first(9 + i)); e != api.OK {
			t.Errorf("Push %d: %d", 9+i, e)
		}
	}
	if len(b.own()) == 0 {
		t.Error("nothing is on the disk")
	}
	if e := q.Close(); e != api.OK {
		t.Errorf("Close: %d", e)
	}
	b.asBefore("Close")
	if e, f := q.Close(), q.Push(first(1)); e != api.ErrDone || f != api.ErrDone || q.Len() != 21 {
		t.Errorf("%d, %d, Len %d", e, f, q.Len())
	}
	if q, e := pqueue.New(b.Desk, plain, 7); q != nil || e != api.ErrShare {
		t.Errorf("share 7: %d", e)
	}
	if q, e := pqueue.New(b.Desk, api.Order{0, 1, 1, 3}, 7); q != nil || e != api.ErrOrder {
		t.Errorf("no order: %d", e)
	}
}

// script makes steps that are mostly forward, some equal to what was taken out last and some below it.
func script(seed, length, few, pushes int, o api.Order) []step {
	r := dice(seed)
	m := model{order: o}
	var out []step
	for range length {
		s := step{kind: pop}
		switch die := r.below(10); {
		case die < pushes:
			s = step{push, r.rec(few)}
			if len(m.last) > 0 {
				s.rec = forward(&r, o, m.last[0], s.rec)
			}
			m.push(s.rec)
		case die == 9:
			s.kind = peek
		default:
			m.pop()
		}
		out = append(out, s)
	}
	return out
}

// forward is a record that is mostly not below the last one.
func forward(r *dice, o api.Order, last, rec api.Rec) api.Rec {
	switch r.below(6) {
	case 0:
		return last
	case 1:
		return rec
	case 2:
		last[o[3]]-- // just below, or from 0 to the greatest
		return last
	case 3:
		last[o[3]]++
		return last
	}
	if compare(o, rec, last) < 0 {
		rec[o[0]] = max(rec[o[0]], last[o[0]])
	}
	return rec
}

var orders = []api.Order{{0, 1, 2, 3}, {3, 2, 1, 0}, {1, 0, 2, 3}, {2, 3, 0, 1}}

// TestItSorts: scripts of all kinds, over many blocks and shares. P6.2 to P6.5, P6.8 to P6.11.
func TestItSorts(t *testing.T) {
	backs, deep := 0, 0
	for seed := range 200 {
		r := dice(seed)
		k := 1 + r.below(4)
		share := 8*k + r.below(3*k+1)*r.below(4)
		o := orders[r.below(len(orders))]
		x := mount(t, 32*(k+1), share).queue(o, share)
		for part := range 1 + r.below(4) {
			for _, s := range script(seed*10+part, r.below(60*k), 1+r.below(50), 3+r.below(6), o) {
				if x.do(s) == api.ErrBack {
					backs++
				}
			}
			deep = max(deep, len(x.list)/x.share)
			if r.below(2) == 0 {
				x.drain()
			}
		}
		x.stays(seed)
		if r.below(2) == 0 {
			x.drain()
		}
		x.close(seed)
	}
	if backs < 100 || deep < 5 {
		t.Errorf("%d records were below the last one; the deepest queue was %d shares", backs, deep)
	}
}

// TestHowMany: from none to many times the share, in each order of coming, popped at once or each behind a Peek. P6.8.
func TestHowMany(t *testing.T) {
	const k, share = 2, 17
	ways := map[string]func(i int) int{
		"rising":  func(i int) int { return i },
		"falling": func(i int) int { return 1000 - i },
		"equal":   func(i int) int { return 7 },
		"mixed":   func(i int) int { return i * 37 % 101 },
	}
	for what, way := range ways {
		for _, n := range []int{0, 1, 2, 3, 7, 8, 9, 15, 16, 17, 18, 19, 33, 34, 35, 36, 100, 101, 700} {
			x := mount(t, 32*(k+1), share).queue(plain, share)
			for i := range n {
				if e := x.do(step{push, first(way(i))}); e != api.OK {
					t.Fatalf("%s: Push %d: %d", what, i, e)
				}
			}
			if some := len(x.own()) > 0; n > share && !some {
				t.Errorf("%s: %d records, and nothing is on the disk", what, n)
			}
			for range n / 2 {
				x.do(step{kind: peek})
				x.do(step{kind: peek})
				x.do(step{kind: pop})
			}
			x.drain()
			x.close(what)
		}
	}
}

// TestPeekLeavesIt: a Peek takes nothing out, and a Push below it, but not below the last Pop, is taken. P6.4.
func TestPeekLeavesIt(t *testing.T) {
	for _, share := range []int{8, 9, 100} {
		x := mount(t, 64, share).queue(plain, share)
		for n := 50; n > 0; n-- {
			if e := x.do(step{push, first(n)}); e != api.OK {
				t.Fatalf("Push %d: %d", n, e)
			}
			x.do(step{kind: peek})
		}
		x.do(step{kind: pop})
		for range 60 {
			x.do(step{kind: peek})
			x.do(step{push, first(1)}) // what was taken out last
			x.do(step{push, first(0)})
			x.do(step{push, first(3)})
			x.do(step{kind: peek})
		}
		x.drain()
		x.close(share)
	}
}

// TestAPopBehindAPeek asks the disk for nothing, so it answers what the Peek did. P6.4.
func TestAPopBehindAPeek(t *testing.T) {
	x := mount(t, 64, 8).queue(plain, 8)
	x.run(script(1, 60, 30, 9, plain))
	for x.Len() > 0 {
		r, e := x.Peek()
		calls := x.Disk().Counts()
		s, f := x.Pop()
		if r != s || e != f || x.Disk().Counts() != calls {
			t.Fatalf("Peek: %v, %d; Pop: %v, %d; %+v and %+v", r, e, s, f, calls, x.Disk().Counts())
		}
	}
}

// TestBack: below the last one in any word, by the order; nothing is changed. P6.2.
func TestBack(t *testing.T) {
	for _, o := range orders {
		x := mount(t, 64, 8).queue(o, 8)
		least := api.Rec{5, 5, 5, 5}
		if e := x.do(step{push, least}); e != api.OK {
			t.Fatal(e)
		}
		for i := range 30 {
			x.do(step{push, api.Rec{9, 9, 9, uint64(9 + i)}})
		}
		x.do(step{push, api.Rec{}}) // nothing has been taken out yet
		x.do(step{kind: pop})
		x.do(step{kind: pop})
		for place := range least {
			for _, other := range []uint64{0, 4, 6, ^uint64(0)} {
				r := least
				r[place] = other
				want := api.OK
				if other < 5 {
					want = api.ErrBack
				}
				was := x.Disk().State()
				if e := x.do(step{push, r}); e != want {
					t.Errorf("%v: Push %v: %d, want %d", o, r, e, want)
				}
				if want == api.ErrBack && !slices.EqualFunc(was.Files, x.Disk().State().Files, func(a, b api.File) bool { return a.Name == b.Name && len(a.Blocks) == len(b.Blocks) }) {
					t.Errorf("%v: Push %v: the disk is not as it was", o, r)
				}
				mixed := r // a word that counts more goes the other way
				mixed[o[0]], mixed[o[3]] = 6, 0
				if e := x.do(step{push, mixed}); e != api.OK {
					t.Errorf("%v: Push %v: %d", o, mixed, e)
				}
			}
		}
		if e := x.do(step{push, least}); e != api.OK {
			t.Errorf("%v: what was taken out last: %d", o, e)
		}
		x.drain()
		if e := x.do(step{push, least}); e != api.ErrBack { // also where nothing is in it
			t.Errorf("%v: an empty queue: %d", o, e)
		}
		x.close(o)
	}
}

// answer is what a step was answered.
type answer struct {
	rec api.Rec
	e   api.Errno
	len int
}

// TestShareAndBlocksChangeNothing: the same steps at queues with unlike shares, on disks with unlike blocks. P6.12, G9.
func TestShareAndBlocksChangeNothing(t *testing.T) {
	for seed := range 40 {
		o := orders[seed%len(orders)]
		steps := script(seed, 400, 40, 4+seed%5, o)
		var told []answer
		for i, c := range []struct{ size, share int }{{64, 8}, {64, 9}, {64, 1000}, {96, 16}, {96, 31}, {320, 72}, {320, 100}, {65536, 8 * 2047}} {
			x := mount(t, c.size, c.share).queue(o, c.share)
			var answers []answer
			for _, s := range steps {
				rec, e := s.do(x.Queue)
				answers = append(answers, answer{rec, e, x.Len()})
			}
			if i == 0 {
				told = answers
			}
			if !slices.Equal(answers, told) {
				t.Fatalf("seed %d, %+v: another answer", seed, c)
			}
			if e := x.Close(); e != api.OK {
				t.Fatal(e)
			}
			x.asBefore(c)
		}
	}
}

// TestTwoQueues at one desk, and a writer whose name is that desk's: none knows of the others. P6.7.
func TestTwoQueues(t *testing.T) {
	b := mount(t, 96, 16+21+2)
	mine := b.Temp() // given away, and not made yet
	q, e := pqueue.New(b.Desk, plain, 16)
	p, f := pqueue.New(b.Desk, orders[1], 21)
	if e != api.OK || f != api.OK {
		t.Fatal(e, f)
	}
	r := dice(5)
	one, two := model{order: plain}, model{order: orders[1]}
	for i := range 900 {
		for _, x := range []struct {
			q *pqueue.Queue
			m *model
		}{{q, &one}, {p, &two}} {
			if r.below(3) > 0 {
				var rec api.Rec
				for _, last := range x.m.last {
					rec = last
				}
				rec[x.m.order[0]] += uint64(r.below(50))
				rec[x.m.order[1]] = uint64(r.below(9))
				if e, want := x.q.Push(rec), x.m.push(rec); e != want {
					t.Fatalf("%d: Push: %d, want %d", i, e, want)
				}
				continue
			}
			rec, e := x.q.Pop()
			if want, f := x.m.pop(); rec != want || e != f {
				t.Fatalf("%d: Pop: %v, %d, want %v, %d", i, rec, e, want, f)
			}
		}
		if i == 500 {
			w, e := b.Write(mine, api.KindRaw)
			if e != api.OK {
				t.Fatalf("%q: %d", mine, e)
			}
			b.out("a writer", 39)
			if e := w.Drop(); e != api.OK {
				t.Fatal(e)
			}
		}
		b.out(i, 37)
		if _, _, e := b.Disk().Length(mine); e != api.ErrNoFile {
			t.Fatalf("%d: a queue has made %q", i, mine)
		}
	}
	b.stays("two queues")
	if len(one.list) < 100 || len(two.list) < 100 {
		t.Errorf("%d and %d records", len(one.list), len(two.list))
	}
	if e := q.Close(); e != api.OK {
		t.Fatal(e)
	}
	b.out("one is closed", 21)
	for len(two.list) > 0 {
		rec, e := p.Pop()
		if want, f := two.pop(); rec != want || e != f {
			t.Fatalf("Pop: %v, %d, want %v, %d", rec, e, want, f)
		}
	}
	if e := p.Close(); e != api.OK {
		t.Fatal(e)
	}
	b.asBefore("both are closed")
}
