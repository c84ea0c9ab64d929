package purse_test

import (
	"math"
	"slices"
	"testing"

	"strata/api"
	"strata/purse"
)

// dice gives numbers that are the same in each run.
type dice uint64

func (r *dice) below(n int) int {
	*r = *r*6364136223846793005 + 1442695040888963407
	return int(uint64(*r)>>33) % n
}

// model is all purses of a script, told as the chapter's table tells them: nothing is added up ahead of being asked.
type model struct {
	limit  []int
	whole  []int // which purse it is a part of; -1: it is no part
	hand   []int
	peak   []int
	closed []bool
}

func (m *model) add(limit, whole int) {
	m.limit = append(m.limit, limit)
	m.whole = append(m.whole, whole)
	m.hand = append(m.hand, 0)
	m.peak = append(m.peak, 0)
	m.closed = append(m.closed, false)
}

func (m *model) openParts(i int) []int {
	var list []int
	for j, w := range m.whole {
		if w == i && !m.closed[j] {
			list = append(list, j)
		}
	}
	return list
}

func (m *model) out(i int) int {
	sum := m.hand[i]
	for _, j := range m.openParts(i) {
		sum += m.limit[j]
	}
	return sum
}

func (m *model) sight(i int) sight {
	if m.closed[i] {
		return sight{m.limit[i], 0, 0, m.peak[i]}
	}
	return sight{m.limit[i], m.out(i), m.limit[i] - m.out(i), m.peak[i]}
}

func (m *model) seePeak(i int) { m.peak[i] = max(m.peak[i], m.out(i)) }

func (m *model) take(i, n int) api.Errno {
	switch {
	case m.closed[i]:
		return api.ErrDone
	case n < 0:
		return api.ErrArg
	case n > m.limit[i]-m.out(i):
		return api.ErrBudget
	}
	m.hand[i] += n
	m.seePeak(i)
	return api.OK
}

func (m *model) give(i, n int) api.Errno {
	switch {
	case m.closed[i]:
		return api.ErrDone
	case n < 0:
		return api.ErrArg
	case n > m.hand[i]:
		return api.ErrGive
	}
	m.hand[i] -= n
	return api.OK
}

func (m *model) part(i, n int) api.Errno {
	switch {
	case m.closed[i]:
		return api.ErrDone
	case n < 0:
		return api.ErrArg
	case n > m.limit[i]-m.out(i):
		return api.ErrBudget
	}
	m.add(n, i)
	m.seePeak(i)
	return api.OK
}

func (m *model) close(i int) api.Errno {
	switch {
	case m.closed[i]:
		return api.ErrDone
	case m.whole[i] < 0:
		return api.ErrArg
	case m.hand[i] > 0 || len(m.openParts(i)) > 0:
		return api.ErrGive
	}
	m.closed[i] = true
	return api.OK
}

// amount is a number around those at which an answer turns.
func amount(r *dice, s sight, hand int) int {
	list := []int{0, 1, 2, s.free, s.free, s.free + 1, s.free / 2, s.free / 3, hand, hand, hand + 1, hand / 2, s.limit, s.used, -1, math.MaxInt, math.MinInt}
	return list[r.below(len(list))]
}

// P2.1 to P2.9: scripts of any calls answer what the model answers, and every purse is seen as the model sees it.
func TestScripts(t *testing.T) {
	seen := map[api.Errno]int{}
	for seed := range 300 {
		r := dice(seed)
		limits := []int{0, 1, 5, 40, 1000, math.MaxInt - 3}
		var m model
		var all []*purse.Purse
		for range 1 + r.below(2) {
			limit := limits[r.below(len(limits))]
			m.add(limit, -1)
			all = append(all, newPurse(t, limit))
		}
		for range 120 {
			i := r.below(len(all))
			n := amount(&r, m.sight(i), m.hand[i])
			var got, should api.Errno
			call := r.below(8)
			switch {
			case call < 3:
				got, should = all[i].Take(n), m.take(i, n)
			case call < 5:
				got, should = all[i].Give(n), m.give(i, n)
			case call < 6:
				var q *purse.Purse
				q, got = all[i].Part(n)
				should = m.part(i, n)
				if (q != nil) != (should == api.OK) {
					t.Fatalf("seed %d: Part(%d) of purse %d: %v", seed, n, i, q)
				}
				if q != nil {
					all = append(all, q)
				}
			default:
				got, should = all[i].Close(), m.close(i)
			}
			seen[got]++
			if got != should {
				t.Fatalf("seed %d: call %d of purse %d with %d: %d, want %d", seed, call, i, n, got, should)
			}
			for j, p := range all {
				if s := sightOf(p); s != m.sight(j) {
					t.Fatalf("seed %d: purse %d is seen as %+v, want %+v", seed, j, s, m.sight(j))
				}
			}
		}
	}
	for _, e := range []api.Errno{api.OK, api.ErrArg, api.ErrDone, api.ErrBudget, api.ErrGive} {
		if seen[e] < 100 {
			t.Errorf("the scripts met %d only %d times", e, seen[e])
		}
	}
}

// P2.8: what holds of an open purse behind any calls, told by its own answers alone.
func TestAlwaysHolds(t *testing.T) {
	for seed := range 100 {
		r := dice(1000 + seed)
		p := newPurse(t, 1+r.below(30))
		var open []*purse.Purse
		peak := 0
		for range 200 {
			n := r.below(12)
			switch i := r.below(1 + len(open)); r.below(5) {
			case 0, 1:
				p.Take(n)
			case 2:
				p.Give(n)
			case 3:
				if q, e := p.Part(n); e == api.OK {
					open = append(open, q)
				}
			case 4:
				if i < len(open) && open[i].Close() == api.OK {
					open = slices.Delete(open, i, i+1)
				}
			}
			s := sightOf(p)
			if s.used < 0 || s.used > s.limit || s.used+s.free != s.limit || s.peak < s.used || s.peak > s.limit || s.peak < peak {
				t.Fatalf("seed %d: %+v behind a peak of %d", seed, s, peak)
			}
			peak = s.peak
		}
	}
}

// P2.9 and G2: the same calls of different parts, in another order, leave the same Used.
func TestOrderIsNotSeen(t *testing.T) {
	for seed := range 100 {
		r := dice(2000 + seed)
		p := newPurse(t, 100)
		parts := []*purse.Purse{part(t, p, 10), part(t, p, 20), part(t, p, 30)}
		want(t, "Take(7)", p.Take(7), api.OK)
		// Each part has its own list of calls: take all, give all, close. What differs is how the lists are mixed.
		at := make([]int, len(parts))
		for done := 0; done < 3*len(parts); {
			i := r.below(len(parts))
			q := parts[i]
			switch at[i] {
			case 0:
				want(t, "Take", q.Take(q.Limit()), api.OK)
			case 1:
				want(t, "Give", q.Give(q.Limit()), api.OK)
			case 2:
				want(t, "Close", q.Close(), api.OK)
			default:
				continue
			}
			at[i]++
			done++
			used := 7
			for j, k := range at {
				if k < 3 {
					used += parts[j].Limit()
				}
			}
			if p.Used() != used || p.Free() != 100-used || p.Peak() != 67 {
				t.Fatalf("seed %d: %+v, want %d used", seed, sightOf(p), used)
			}
		}
	}
}
