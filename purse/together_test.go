package purse_test

import (
	"sync"
	"sync/atomic"
	"testing"

	"strata/api"
	"strata/purse"
)

const workers = 8

// together runs the workers at one time, and waits for all.
func together(work func(i int)) {
	var w sync.WaitGroup
	start := make(chan int)
	for i := range workers {
		w.Go(func() {
			<-start
			work(i)
		})
	}
	close(start)
	w.Wait()
}

// Several goroutines at one purse: no Take and no Give is lost.
func TestTogetherNothingIsLost(t *testing.T) {
	for range 20 {
		takeAndGive(t, 2000)
	}
}

func takeAndGive(t *testing.T, each int) {
	t.Helper()
	all := workers * each
	p := newPurse(t, all)
	together(func(int) {
		for range each {
			want(t, "Take", p.Take(1), api.OK)
		}
	})
	wantSight(t, "behind all Takes", p, sight{all, all, 0, all})
	together(func(int) {
		for range each - 1 {
			want(t, "Give", p.Give(1), api.OK)
		}
	})
	wantSight(t, "behind all Gives", p, sight{all, workers, all - workers, all})
}

// Several goroutines at one purse: no part's making and no part's Close is lost.
func TestTogetherNoPartIsLost(t *testing.T) {
	for range 20 {
		openAndClose(t, 2000)
	}
}

func openAndClose(t *testing.T, each int) {
	t.Helper()
	p := newPurse(t, workers*each)
	whole := part(t, p, workers*each)
	var parts [workers][]*purse.Purse
	together(func(i int) {
		for range each {
			q, e := whole.Part(1)
			if e != api.OK {
				t.Errorf("Part: %d", e)
				return
			}
			parts[i] = append(parts[i], q)
		}
	})
	wantSight(t, "behind all Parts", whole, sight{workers * each, workers * each, 0, workers * each})
	together(func(i int) {
		for _, q := range parts[i] {
			want(t, "Close", q.Close(), api.OK)
		}
	})
	wantSight(t, "behind all Closes", whole, sight{workers * each, 0, workers * each, workers * each})
	want(t, "Close of what has no open part", whole.Close(), api.OK)
}

// Several goroutines at one purse: never is more out than the limit, by hand and in parts.
func TestTogetherWithinTheLimit(t *testing.T) {
	const limit = 20
	p := newPurse(t, limit)
	var out, refused atomic.Int64
	hold := func(n int64) {
		if now := out.Add(n); now > limit {
			t.Errorf("%d are out of %d", now, limit)
		}
	}
	together(func(i int) {
		n := 3 + i%3
		for k := range 3000 {
			if k%2 == 0 {
				if p.Take(n) != api.OK {
					refused.Add(1)
					continue
				}
				hold(int64(n))
				out.Add(-int64(n))
				want(t, "Give", p.Give(n), api.OK)
				continue
			}
			q, e := p.Part(n)
			if e != api.OK {
				refused.Add(1)
				continue
			}
			hold(int64(n))
			want(t, "the part's Take", q.Take(n), api.OK)
			want(t, "the part's Take of one more", q.Take(1), api.ErrBudget)
			want(t, "the part's Give", q.Give(n), api.OK)
			out.Add(-int64(n))
			want(t, "the part's Close", q.Close(), api.OK)
		}
	})
	if p.Used() != 0 || p.Free() != limit || p.Peak() > limit || p.Peak() < 5 {
		t.Errorf("behind all: %+v, %d refused", sightOf(p), refused.Load())
	}
}

// Several goroutines with a part each, of parts of one purse: what they do is not seen in the purse.
func TestTogetherPartsAreNotSeen(t *testing.T) {
	p := newPurse(t, workers*10)
	q := part(t, p, workers*10)
	together(func(int) {
		r, e := q.Part(10)
		if e != api.OK {
			t.Errorf("Part: %d", e)
			return
		}
		for k := range 2000 {
			want(t, "Take", r.Take(k%11), api.OK)
			if got := sightOf(p); got != (sight{workers * 10, workers * 10, 0, workers * 10}) {
				t.Errorf("the purse: %+v", got)
				return
			}
			want(t, "Give", r.Give(k%11), api.OK)
		}
		wantSight(t, "a part", r, sight{10, 0, 10, 10})
		want(t, "Close", r.Close(), api.OK)
	})
	wantSight(t, "the parts' purse", q, sight{workers * 10, 0, workers * 10, q.Peak()})
	want(t, "Close", q.Close(), api.OK)
	wantSight(t, "the purse", p, sight{workers * 10, 0, workers * 10, workers * 10})
}

// Several goroutines close one part: one of them does.
func TestTogetherOneCloses(t *testing.T) {
	p := newPurse(t, 100)
	for range 500 {
		q := part(t, p, 100)
		var ok, done atomic.Int64
		together(func(int) {
			switch q.Close() {
			case api.OK:
				ok.Add(1)
			case api.ErrDone:
				done.Add(1)
			}
		})
		if ok.Load() != 1 || done.Load() != workers-1 || p.Used() != 0 {
			t.Fatalf("%d closed the part, %d found it closed, %d are out", ok.Load(), done.Load(), p.Used())
		}
	}
}

// One goroutine closes a part while others take from it: what is taken of a part that is closed, is not.
func TestTogetherCloseOrTake(t *testing.T) {
	p := newPurse(t, 10)
	for range 500 {
		q := part(t, p, 10)
		var taken atomic.Int64
		var closed atomic.Bool
		together(func(i int) {
			if i == 0 {
				closed.Store(q.Close() == api.OK)
			} else if q.Take(1) == api.OK {
				taken.Add(1)
			}
		})
		n := int(taken.Load())
		if closed.Load() {
			if n != 0 || p.Used() != 0 {
				t.Fatalf("closed, yet %d were taken, %d are out", n, p.Used())
			}
			continue
		}
		if n != workers-1 || q.Used() != n || p.Used() != 10 {
			t.Fatalf("open, %d were taken, %d are out of the part", n, q.Used())
		}
		want(t, "Give", q.Give(n), api.OK)
		want(t, "Close", q.Close(), api.OK)
	}
}

// While others take and give, the peak never falls, and is never below what was out ahead of the asking.
func TestTogetherPeak(t *testing.T) {
	p := newPurse(t, workers*5)
	together(func(i int) {
		if i%2 == 0 {
			for k := range 2000 {
				want(t, "Take", p.Take(k%6), api.OK)
				want(t, "Give", p.Give(k%6), api.OK)
			}
			return
		}
		last := 0
		for range 2000 {
			used := p.Used()
			peak := p.Peak()
			if peak < used || peak < last || peak > p.Limit() {
				t.Errorf("%d out, then a peak of %d, behind one of %d", used, peak, last)
				return
			}
			last = peak
		}
	})
	if p.Used() != 0 || p.Peak() < 5 || p.Peak() > workers*5 {
		t.Errorf("behind all: %+v", sightOf(p))
	}
}
