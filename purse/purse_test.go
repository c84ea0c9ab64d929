package purse_test

import (
	"math"
	"testing"

	"strata/api"
	"strata/purse"
)

func newPurse(t *testing.T, limit int) *purse.Purse {
	t.Helper()
	p, e := purse.New(limit)
	if p == nil || e != api.OK {
		t.Fatalf("New(%d): %v, %d", limit, p, e)
	}
	return p
}

func part(t *testing.T, p *purse.Purse, n int) *purse.Purse {
	t.Helper()
	q, e := p.Part(n)
	if q == nil || e != api.OK {
		t.Fatalf("Part(%d): %v, %d", n, q, e)
	}
	return q
}

func want(t *testing.T, what string, got, want api.Errno) {
	t.Helper()
	if got != want {
		t.Errorf("%s: %d, want %d", what, got, want)
	}
}

func wantNoPart(t *testing.T, p *purse.Purse, n int, want api.Errno) {
	t.Helper()
	if q, e := p.Part(n); q != nil || e != want {
		t.Errorf("Part(%d): %v, %d, want nil, %d", n, q, e, want)
	}
}

// sight is what the four asks answer.
type sight struct{ limit, used, free, peak int }

func sightOf(p *purse.Purse) sight {
	return sight{limit: p.Limit(), used: p.Used(), free: p.Free(), peak: p.Peak()}
}

func wantSight(t *testing.T, what string, p *purse.Purse, want sight) {
	t.Helper()
	if got := sightOf(p); got != want {
		t.Errorf("%s: %+v, want %+v", what, got, want)
	}
}

// P2.1: an open purse of that limit which is no part, or nil and ErrArg.
func TestNew(t *testing.T) {
	for _, limit := range []int{-1, -2, math.MinInt} {
		if p, e := purse.New(limit); p != nil || e != api.ErrArg {
			t.Errorf("New(%d): %v, %d, want nil, ErrArg", limit, p, e)
		}
	}
	for _, limit := range []int{0, 1, 10, math.MaxInt} {
		p := newPurse(t, limit)
		wantSight(t, "a new purse", p, sight{limit, 0, limit, 0})
		want(t, "Take(0) of a new purse", p.Take(0), api.OK)
		want(t, "Close of a new purse", p.Close(), api.ErrArg)
	}
}

// P2.1: two purses are two.
func TestNewIsNew(t *testing.T) {
	p, q := newPurse(t, 5), newPurse(t, 5)
	want(t, "Take", p.Take(5), api.OK)
	wantSight(t, "the other purse", q, sight{5, 0, 5, 0})
}

// P2.2: what is taken is out by hand, up to what is free.
func TestTake(t *testing.T) {
	p := newPurse(t, 10)
	want(t, "Take(4)", p.Take(4), api.OK)
	wantSight(t, "4 of 10", p, sight{10, 4, 6, 4})
	want(t, "Take(7) of 6", p.Take(7), api.ErrBudget)
	want(t, "Take(6) of 6", p.Take(6), api.OK)
	wantSight(t, "10 of 10", p, sight{10, 10, 0, 10})
	want(t, "Take(1) of 0", p.Take(1), api.ErrBudget)
	want(t, "Take(0) of 0", p.Take(0), api.OK)
	want(t, "Give of all that was taken", p.Give(10), api.OK)
	wantSight(t, "all given back", p, sight{10, 0, 10, 10})
}

// P2.2: wrong numbers, a limit of 0, and what open parts hold.
func TestTakeEdges(t *testing.T) {
	none := newPurse(t, 0)
	want(t, "Take(0) of a limit of 0", none.Take(0), api.OK)
	want(t, "Take(1) of a limit of 0", none.Take(1), api.ErrBudget)
	want(t, "Take(-1) of a limit of 0", none.Take(-1), api.ErrArg)
	want(t, "Take(MinInt)", none.Take(math.MinInt), api.ErrArg)
	want(t, "Take(MaxInt)", none.Take(math.MaxInt), api.ErrBudget)
	wantSight(t, "a limit of 0", none, sight{})
	p := newPurse(t, 10)
	part(t, p, 6)
	want(t, "Take(5) beside a part of 6", p.Take(5), api.ErrBudget)
	want(t, "Take(4) beside a part of 6", p.Take(4), api.OK)
	want(t, "Take(0) where all is out", p.Take(0), api.OK)
}

// P2.3: only what is out by hand is given back.
func TestGive(t *testing.T) {
	p := newPurse(t, 10)
	want(t, "Take(4)", p.Take(4), api.OK)
	want(t, "Give(5) of 4", p.Give(5), api.ErrGive)
	want(t, "Give(3) of 4", p.Give(3), api.OK)
	wantSight(t, "1 is left out", p, sight{10, 1, 9, 4})
	want(t, "Give(2) of 1", p.Give(2), api.ErrGive)
	want(t, "Give(1) of 1", p.Give(1), api.OK)
	want(t, "Give(1) of 0", p.Give(1), api.ErrGive)
	want(t, "Give(0) of 0", p.Give(0), api.OK)
	wantSight(t, "all is back", p, sight{10, 0, 10, 4})
}

// P2.3: what open parts hold can't be given back at the purse; wrong numbers.
func TestGiveEdges(t *testing.T) {
	p := newPurse(t, 10)
	q := part(t, p, 6)
	want(t, "Take(2)", p.Take(2), api.OK)
	want(t, "the part's Take(6)", q.Take(6), api.OK)
	want(t, "Give(3) beside a part of 6", p.Give(3), api.ErrGive)
	want(t, "Give(2) beside a part of 6", p.Give(2), api.OK)
	want(t, "Give(1) of a part", p.Give(1), api.ErrGive)
	want(t, "Give(-1)", p.Give(-1), api.ErrArg)
	want(t, "Give(MinInt)", p.Give(math.MinInt), api.ErrArg)
	want(t, "Give(MaxInt)", p.Give(math.MaxInt), api.ErrGive)
	want(t, "the part's Give(7)", q.Give(7), api.ErrGive)
	want(t, "the part's Give(6)", q.Give(6), api.OK)
	wantSight(t, "the purse", p, sight{10, 6, 4, 8})
	wantSight(t, "the part", q, sight{6, 0, 6, 6})
}

// P2.4: a part counts whole for its purse, whatever it hands out itself.
func TestPart(t *testing.T) {
	p := newPurse(t, 10)
	want(t, "Take(1)", p.Take(1), api.OK)
	q := part(t, p, 9)
	wantSight(t, "the purse", p, sight{10, 10, 0, 10})
	wantSight(t, "the part", q, sight{9, 0, 9, 0})
	want(t, "the part's Take(9)", q.Take(9), api.OK)
	want(t, "the part's Take(1)", q.Take(1), api.ErrBudget)
	wantSight(t, "the purse", p, sight{10, 10, 0, 10})
	wantSight(t, "the part", q, sight{9, 9, 0, 9})
	want(t, "the part's Give(4)", q.Give(4), api.OK)
	wantSight(t, "the purse", p, sight{10, 10, 0, 10})
	wantSight(t, "the part", q, sight{9, 5, 4, 9})
}

// P2.4: wrong numbers, and parts of 0.
func TestPartEdges(t *testing.T) {
	p := newPurse(t, 5)
	wantNoPart(t, p, -1, api.ErrArg)
	wantNoPart(t, p, math.MinInt, api.ErrArg)
	wantNoPart(t, p, 6, api.ErrBudget)
	wantNoPart(t, p, math.MaxInt, api.ErrBudget)
	wantSight(t, "refused", p, sight{5, 0, 5, 0})
	all := part(t, p, 5)
	wantNoPart(t, p, 1, api.ErrBudget)
	empty := part(t, p, 0)
	wantSight(t, "a part of 0", empty, sight{})
	want(t, "Take(0) of a part of 0", empty.Take(0), api.OK)
	want(t, "Take(1) of a part of 0", empty.Take(1), api.ErrBudget)
	part(t, empty, 0)
	wantNoPart(t, empty, 1, api.ErrBudget)
	wantSight(t, "the purse", p, sight{5, 5, 0, 5})
	want(t, "Close of the part of 5", all.Close(), api.OK)
	wantSight(t, "the purse", p, sight{5, 0, 5, 5})
}

// P2.4: parts of parts.
func TestPartOfPart(t *testing.T) {
	p := newPurse(t, 20)
	q := part(t, p, 12)
	r := part(t, q, 7)
	s := part(t, r, 7)
	wantNoPart(t, r, 1, api.ErrBudget)
	wantNoPart(t, q, 6, api.ErrBudget)
	want(t, "Take(3) of the innermost", s.Take(3), api.OK)
	wantSight(t, "the purse", p, sight{20, 12, 8, 12})
	wantSight(t, "its part", q, sight{12, 7, 5, 7})
	wantSight(t, "the part's part", r, sight{7, 7, 0, 7})
	wantSight(t, "the innermost", s, sight{7, 3, 4, 3})
	want(t, "Close of r", r.Close(), api.ErrGive)
	want(t, "Give(3)", s.Give(3), api.OK)
	want(t, "Close of s", s.Close(), api.OK)
	want(t, "Close of r", r.Close(), api.OK)
	wantSight(t, "its part", q, sight{12, 0, 12, 7})
	wantSight(t, "the purse", p, sight{20, 12, 8, 12})
	want(t, "Close of q", q.Close(), api.OK)
	wantSight(t, "the purse", p, sight{20, 0, 20, 12})
}

// P2.4: many parts, nested in one another.
func TestPartsNestedDeeply(t *testing.T) {
	const deep = 1 << 16
	chain := []*purse.Purse{newPurse(t, deep)}
	for range deep {
		last := chain[len(chain)-1]
		chain = append(chain, part(t, last, last.Limit()-1))
	}
	wantNoPart(t, chain[deep], 1, api.ErrBudget)
	for i := deep; i > 0; i-- {
		want(t, "Close", chain[i].Close(), api.OK)
	}
	wantSight(t, "the purse", chain[0], sight{deep, 0, deep, deep - 1})
}

// P2.5: Close of what is no part, of what is closed, of what is not empty.
func TestClose(t *testing.T) {
	p := newPurse(t, 10)
	want(t, "Close of no part", p.Close(), api.ErrArg)
	want(t, "Take(1)", p.Take(1), api.OK)
	q := part(t, p, 4)
	want(t, "Close of no part, of which something is out", p.Close(), api.ErrArg)
	want(t, "the part's Take(1)", q.Take(1), api.OK)
	want(t, "Close of a part of which 1 is out", q.Close(), api.ErrGive)
	want(t, "the part's Give(1)", q.Give(1), api.OK)
	r := part(t, q, 2)
	want(t, "Close of a part of which a part is open", q.Close(), api.ErrGive)
	want(t, "Close of the inner part", r.Close(), api.OK)
	wantSight(t, "the purse", p, sight{10, 5, 5, 5})
	want(t, "Close", q.Close(), api.OK)
	wantSight(t, "the purse", p, sight{10, 1, 9, 5})
	want(t, "Close of a closed part", q.Close(), api.ErrDone)
	want(t, "Close of a closed inner part", r.Close(), api.ErrDone)
	wantSight(t, "the purse", p, sight{10, 1, 9, 5})
	want(t, "Close of no part, behind all", p.Close(), api.ErrArg)
}

// P2.5: a part of 0 is open until it is closed.
func TestClosePartOfNothing(t *testing.T) {
	p := newPurse(t, 10)
	q := part(t, p, 3)
	one, two := part(t, q, 0), part(t, q, 0)
	want(t, "Close with two parts of 0 open", q.Close(), api.ErrGive)
	want(t, "Close of the one", one.Close(), api.OK)
	want(t, "Close of the one again", one.Close(), api.ErrDone)
	want(t, "Close with one part of 0 open", q.Close(), api.ErrGive)
	want(t, "Close of the other", two.Close(), api.OK)
	want(t, "Close with none", q.Close(), api.OK)
	wantSight(t, "the purse", p, sight{10, 0, 10, 3})
}

// P2.5 with P2.2 to P2.4: every call of a closed part is refused with ErrDone, ahead of all else.
func TestCallsOfClosed(t *testing.T) {
	p := newPurse(t, 10)
	q := part(t, p, 4)
	want(t, "Take(3)", q.Take(3), api.OK)
	want(t, "Give(3)", q.Give(3), api.OK)
	want(t, "Close", q.Close(), api.OK)
	for _, n := range []int{0, 1, 4, 5, -1, math.MaxInt, math.MinInt} {
		want(t, "Take of a closed part", q.Take(n), api.ErrDone)
		want(t, "Give of a closed part", q.Give(n), api.ErrDone)
		wantNoPart(t, q, n, api.ErrDone)
	}
	want(t, "Close of a closed part", q.Close(), api.ErrDone)
	wantSight(t, "the closed part", q, sight{4, 0, 0, 3})
	wantSight(t, "the purse", p, sight{10, 0, 10, 4})
	want(t, "Take(10) of the purse", p.Take(10), api.OK)
}

// P2.6: the peak stays behind Give and behind Close; of a closed part it is what it was.
func TestPeak(t *testing.T) {
	p := newPurse(t, 10)
	want(t, "Take(3)", p.Take(3), api.OK)
	want(t, "Give(3)", p.Give(3), api.OK)
	wantSight(t, "behind Give", p, sight{10, 0, 10, 3})
	want(t, "Take(2)", p.Take(2), api.OK)
	wantSight(t, "below the peak", p, sight{10, 2, 8, 3})
	q := part(t, p, 1)
	wantSight(t, "at the peak", p, sight{10, 3, 7, 3})
	want(t, "the part's Take(1)", q.Take(1), api.OK)
	want(t, "the part's Give(1)", q.Give(1), api.OK)
	r := part(t, p, 5)
	wantSight(t, "above it, by a part", p, sight{10, 8, 2, 8})
	want(t, "Close", r.Close(), api.OK)
	want(t, "Close", q.Close(), api.OK)
	wantSight(t, "behind Close", p, sight{10, 2, 8, 8})
	wantSight(t, "a closed part that has handed out", q, sight{1, 0, 0, 1})
	wantSight(t, "a closed part that has not", r, sight{5, 0, 0, 0})
	want(t, "Take(7)", p.Take(7), api.OK)
	wantSight(t, "above it, by hand", p, sight{10, 9, 1, 9})
	wantSight(t, "a closed part, later", q, sight{1, 0, 0, 1})
}

// P2.7: a refused call changes nothing, the peak neither.
func TestRefusedChangesNothing(t *testing.T) {
	p := newPurse(t, 10)
	q := part(t, p, 6)
	r := part(t, q, 2)
	closed := part(t, p, 1)
	want(t, "Close", closed.Close(), api.OK)
	want(t, "Take(1)", p.Take(1), api.OK)
	want(t, "the part's Take(1)", q.Take(1), api.OK)
	all := []*purse.Purse{p, q, r, closed}
	ahead := make([]sight, len(all))
	for i, x := range all {
		ahead[i] = sightOf(x)
	}
	try := func(what string, call func() api.Errno) {
		t.Helper()
		if call() == api.OK {
			t.Errorf("%s: OK", what)
		}
		for i, x := range all {
			wantSight(t, "behind "+what, x, ahead[i])
		}
	}
	for _, x := range all {
		for _, n := range []int{-1, math.MinInt, math.MaxInt, x.Free() + 1} {
			try("Take", func() api.Errno { return x.Take(n) })
			try("Part", func() api.Errno { _, e := x.Part(n); return e })
		}
		for _, n := range []int{-1, math.MinInt, math.MaxInt, 2} {
			try("Give", func() api.Errno { return x.Give(n) })
		}
	}
	for _, x := range []*purse.Purse{p, q, closed} {
		try("Close", x.Close)
	}
	// That nothing was changed behind the four asks either:
	want(t, "Close of r", r.Close(), api.OK)
	want(t, "Give(1) of q", q.Give(1), api.OK)
	want(t, "Close of q", q.Close(), api.OK)
	want(t, "Give(1)", p.Give(1), api.OK)
	wantSight(t, "the purse", p, sight{10, 0, 10, 7})
}

// P2.8: numbers that are great do not wrap.
func TestGreatNumbers(t *testing.T) {
	const most = math.MaxInt
	p := newPurse(t, most)
	want(t, "Take(1)", p.Take(1), api.OK)
	want(t, "Take(most) of most - 1", p.Take(most), api.ErrBudget)
	wantNoPart(t, p, most, api.ErrBudget)
	want(t, "Give(most) of 1", p.Give(most), api.ErrGive)
	want(t, "Take(most - 1)", p.Take(most-1), api.OK)
	wantSight(t, "all of most", p, sight{most, most, 0, most})
	want(t, "Take(1) of none", p.Take(1), api.ErrBudget)
	want(t, "Take(most) of none", p.Take(most), api.ErrBudget)
	wantNoPart(t, p, most, api.ErrBudget)
	want(t, "Give(most)", p.Give(most), api.OK)
	want(t, "Take(most)", p.Take(most), api.OK)
	want(t, "Give(most)", p.Give(most), api.OK)
	q := part(t, p, most)
	wantSight(t, "a part of most", p, sight{most, most, 0, most})
	want(t, "the part's Take(most)", q.Take(most), api.OK)
	want(t, "the part's Take(most) again", q.Take(most), api.ErrBudget)
	want(t, "Give(most) of a part", p.Give(most), api.ErrGive)
	want(t, "the part's Give(most)", q.Give(most), api.OK)
	want(t, "Close", q.Close(), api.OK)
	wantSight(t, "behind it", p, sight{most, 0, most, most})
}

// P2.8: purses that are no parts of one another know nothing of one another, nor do two parts.
func TestKnowNothing(t *testing.T) {
	p, other := newPurse(t, 10), newPurse(t, 10)
	q, r := part(t, p, 4), part(t, p, 4)
	want(t, "Take(4) of the one part", q.Take(4), api.OK)
	wantSight(t, "the other part", r, sight{4, 0, 4, 0})
	wantSight(t, "the other purse", other, sight{10, 0, 10, 0})
	want(t, "Take(2) of the purse", p.Take(2), api.OK)
	wantSight(t, "the one part", q, sight{4, 4, 0, 4})
	wantSight(t, "the other part", r, sight{4, 0, 4, 0})
	want(t, "Close of the other part", r.Close(), api.OK)
	wantSight(t, "the one part", q, sight{4, 4, 0, 4})
	want(t, "Take(1) of the one part", q.Take(1), api.ErrBudget)
}

// P2.9: in whatever order parts are closed, Used is what is open and out.
func TestCloseInAnyOrder(t *testing.T) {
	limits := [4]int{1, 2, 4, 8}
	for code := range 4 * 3 * 2 {
		p := newPurse(t, 20)
		left := []*purse.Purse{}
		for _, n := range limits {
			q := part(t, p, n)
			want(t, "a part's Take", q.Take(n), api.OK)
			left = append(left, q)
		}
		want(t, "Take(3)", p.Take(3), api.OK)
		used := 18
		for k := len(left); k > 0; k-- {
			i := code % k
			code /= k
			q := left[i]
			left = append(left[:i], left[i+1:]...)
			want(t, "a part's Give", q.Give(q.Limit()), api.OK)
			wantSight(t, "behind a part's Give", p, sight{20, used, 20 - used, 18})
			want(t, "a part's Close", q.Close(), api.OK)
			used -= q.Limit()
			wantSight(t, "behind a part's Close", p, sight{20, used, 20 - used, 18})
		}
		want(t, "Give(3)", p.Give(3), api.OK)
		wantSight(t, "in the end", p, sight{20, 0, 20, 18})
	}
}

// The examples of the chapter, one behind the other.
func TestExamples(t *testing.T) {
	p := newPurse(t, 10)
	want(t, "Take(4)", p.Take(4), api.OK)
	wantSight(t, "p", p, sight{10, 4, 6, 4})
	want(t, "Give(5)", p.Give(5), api.ErrGive)
	want(t, "Give(3)", p.Give(3), api.OK)
	wantSight(t, "p", p, sight{10, 1, 9, 4})
	q := part(t, p, 9)
	wantSight(t, "p", p, sight{10, 10, 0, 10})
	want(t, "p.Take(1)", p.Take(1), api.ErrBudget)
	want(t, "p.Take(0)", p.Take(0), api.OK)
	want(t, "p.Give(2)", p.Give(2), api.ErrGive)
	wantSight(t, "q", q, sight{9, 0, 9, 0})
	want(t, "q.Take(9)", q.Take(9), api.OK)
	want(t, "q.Take(1)", q.Take(1), api.ErrBudget)
	wantSight(t, "p", p, sight{10, 10, 0, 10})
	want(t, "q.Close", q.Close(), api.ErrGive)
	want(t, "q.Give(9)", q.Give(9), api.OK)
	want(t, "q.Close", q.Close(), api.OK)
	want(t, "q.Close", q.Close(), api.ErrDone)
	wantSight(t, "p", p, sight{10, 1, 9, 10})
	wantSight(t, "q", q, sight{9, 0, 0, 9})
	want(t, "q.Take(0)", q.Take(0), api.ErrDone)
	want(t, "p.Close", p.Close(), api.ErrArg)
	r := part(t, p, 0)
	want(t, "r.Close", r.Close(), api.OK)
	wantSight(t, "p", p, sight{10, 1, 9, 10})
}
