package recs_test

import (
	"math"
	"slices"
	"testing"

	"strata/api"
	"strata/recs"
)

// dice gives numbers that are the same in each run.
type dice uint64

func (r *dice) below(n int) int {
	*r = *r*6364136223846793005 + 1442695040888963407
	return int(uint64(*r)>>33) % n
}

func (r *dice) word() uint64 { return uint64(r.below(1<<31))<<33 ^ uint64(r.below(1<<31)) }

func TestInnerIsThePointerToANode(t *testing.T) { // P3.1
	for _, c := range []struct {
		level, id int
		want      api.Ptr
		e         api.Errno
	}{
		{0, 0, 0, api.OK},
		{0, 5, 5, api.OK},
		{1, 0, 1099511627776, api.OK},
		{3, 7, 3298534883335, api.OK},
		{0, 1099511627775, 1099511627775, api.OK},
		{65535, 0, 65535 << 40, api.OK},
		{65535, 1099511627775, 72057594037927935, api.OK},
		{65536, 0, 0, api.ErrArg},
		{math.MaxInt, 0, 0, api.ErrArg},
		{-1, 0, 0, api.ErrArg},
		{math.MinInt, 0, 0, api.ErrArg},
		{0, -1, 0, api.ErrArg},
		{65535, math.MinInt, 0, api.ErrArg},
		{0, 1099511627776, 0, api.ErrMany},
		{65535, math.MaxInt, 0, api.ErrMany},
		{65536, 1099511627776, 0, api.ErrArg},
		{-1, 1099511627776, 0, api.ErrArg},
	} {
		if p, e := recs.Inner(c.level, c.id); p != c.want || e != c.e {
			t.Errorf("Inner(%d, %d) = %d, %d, want %d, %d", c.level, c.id, p, e, c.want, c.e)
		}
	}
}

func TestLeafIsALeaf(t *testing.T) { // P3.2
	if p := recs.Leaf(false); p != 1<<63 {
		t.Errorf("Leaf(false) = %d", p)
	}
	if p := recs.Leaf(true); p != 1<<63+1 {
		t.Errorf("Leaf(true) = %d", p)
	}
}

// split is what Split answers.
type split struct {
	level, id       int
	leaf, value, ok bool
}

func splitOf(p api.Ptr) split {
	level, id, leaf, value, ok := recs.Split(p)
	return split{level, id, leaf, value, ok}
}

func TestSplitAndLevel(t *testing.T) { // P3.3, P3.4
	none := split{}
	for _, c := range []struct {
		p     api.Ptr
		want  split
		level int
	}{
		{0, split{ok: true}, 0},
		{5, split{id: 5, ok: true}, 0},
		{1<<40 - 1, split{id: 1<<40 - 1, ok: true}, 0},
		{1 << 40, split{level: 1, ok: true}, 1},
		{1099511627778, split{level: 1, id: 2, ok: true}, 1},
		{65535 << 40, split{level: 65535, ok: true}, 65535},
		{1<<56 - 1, split{level: 65535, id: 1<<40 - 1, ok: true}, 65535},
		{1 << 56, none, -1},
		{1<<56 + 1, none, -1},
		{1 << 57, none, -1},
		{1<<62 + 5, none, -1},
		{1<<63 - 1, none, -1},
		{api.False, split{leaf: true, ok: true}, 65536},
		{api.True, split{leaf: true, value: true, ok: true}, 65536},
		{1<<63 + 2, none, -1},
		{1<<63 + 1<<40, none, -1},
		{1<<64 - 2, none, -1},
		{api.Mark, none, -1},
	} {
		if got := splitOf(c.p); got != c.want {
			t.Errorf("Split(%d) = %+v, want %+v", c.p, got, c.want)
		}
		if got := recs.Level(c.p); got != c.level {
			t.Errorf("Level(%d) = %d, want %d", c.p, got, c.level)
		}
	}
}

func TestInnerAndSplitTakeOneAnotherBack(t *testing.T) { // P3.1, P3.3
	r := dice(1)
	for range 20000 {
		level, id := r.below(api.MaxVars), int(r.word()&api.MaxId)
		p, e := recs.Inner(level, id)
		if e != api.OK || splitOf(p) != (split{level: level, id: id, ok: true}) {
			t.Fatalf("Inner(%d, %d) = %d, %d; Split of it %+v", level, id, p, e, splitOf(p))
		}
		p = api.Ptr(r.word() >> r.below(12))
		s := splitOf(p)
		if s.leaf || !s.ok {
			continue
		}
		if q, e := recs.Inner(s.level, s.id); q != p || e != api.OK {
			t.Fatalf("Split(%d) = %+v; Inner of it %d, %d", p, s, q, e)
		}
	}
}

// P3.13: pointers of a list that rises by (level, id), the leaves behind it, rise too.
func TestInnerKeepsTheOrder(t *testing.T) {
	var list []api.Ptr
	for _, level := range []int{0, 1, 2, 255, 256, 32767, 32768, 65534, 65535} {
		for _, id := range []int{0, 1, 2, 1<<32 - 1, 1 << 32, 1<<39 - 1, 1 << 39, api.MaxId - 1, api.MaxId} {
			p, e := recs.Inner(level, id)
			if e != api.OK {
				t.Fatalf("Inner(%d, %d): %d", level, id, e)
			}
			list = append(list, p)
		}
	}
	list = append(list, recs.Leaf(false), recs.Leaf(true))
	for i := 1; i < len(list); i++ {
		if list[i-1] >= list[i] {
			t.Errorf("%d is not less than %d", list[i-1], list[i])
		}
	}
}

// places are numbers that may stand in an order, and some that may not.
var places = []int{math.MinInt, -1, 0, 1, 2, 3, 4, math.MaxInt}

// eachOrder calls f with every order of these places.
func eachOrder(f func(api.Order)) {
	for _, a := range places {
		for _, b := range places {
			for _, c := range places {
				for _, d := range places {
					f(api.Order{a, b, c, d})
				}
			}
		}
	}
}

// isSound says it another way than the program: by sorting.
func isSound(o api.Order) bool {
	return slices.Equal(slices.Sorted(slices.Values(o[:])), []int{0, 1, 2, 3})
}

func TestSoundOfEveryOrder(t *testing.T) { // P3.5
	sound := 0
	eachOrder(func(o api.Order) {
		if recs.Sound(o) != isSound(o) {
			t.Errorf("Sound(%v) = %v", o, recs.Sound(o))
		}
		if recs.Sound(o) {
			sound++
		}
	})
	if sound != 24 {
		t.Errorf("%d orders are sound, want 24", sound)
	}
}

// compared says what Compare answers, by the words laid out in the order.
func compared(o api.Order, a, b api.Rec) int {
	if !isSound(o) {
		o = api.Order{0, 1, 2, 3}
	}
	var x, y []uint64
	for _, place := range o {
		x, y = append(x, a[place]), append(y, b[place])
	}
	return slices.Compare(x, y)
}

func TestCompareByExamples(t *testing.T) { // P3.6
	top := uint64(1) << 63
	for _, c := range []struct {
		o    api.Order
		a, b api.Rec
		want int
	}{
		{api.Order{1, 0, 2, 3}, api.Rec{9, 1, 0, 0}, api.Rec{0, 2, 0, 0}, -1},
		{api.Order{0, 1, 2, 3}, api.Rec{9, 1, 0, 0}, api.Rec{0, 2, 0, 0}, 1},
		{api.Order{0, 0, 2, 3}, api.Rec{9, 1, 0, 0}, api.Rec{0, 2, 0, 0}, 1},
		{api.Order{1, 1, 2, 3}, api.Rec{9, 1, 0, 0}, api.Rec{0, 2, 0, 0}, 1},
		{api.Order{1, 2, 3, 4}, api.Rec{9, 1, 0, 0}, api.Rec{0, 2, 0, 0}, 1},
		{api.Order{1, 0, 2, -1}, api.Rec{9, 1, 0, 0}, api.Rec{0, 2, 0, 0}, 1},
		{api.Order{1, 0, 2, 3}, api.Rec{9, 1, 0, 0}, api.Rec{9, 1, 0, 0}, 0},
		{api.Order{3, 2, 1, 0}, api.Rec{0, 0, 0, top}, api.Rec{0, 0, 0, 1}, 1},
		{api.Order{0, 1, 2, 3}, api.Rec{1<<64 - 1, 0, 0, 0}, api.Rec{0, 5, 5, 5}, 1},
		{api.Order{3, 2, 1, 0}, api.Rec{1, 7, 7, 7}, api.Rec{2, 7, 7, 7}, -1},
	} {
		if got := recs.Compare(c.o, c.a, c.b); got != c.want {
			t.Errorf("Compare(%v, %v, %v) = %d, want %d", c.o, c.a, c.b, got, c.want)
		}
	}
}

func TestCompareByEveryOrder(t *testing.T) { // P3.6
	r := dice(2)
	words := []uint64{0, 1, 2, 1<<63 - 1, 1 << 63, 1<<64 - 1}
	some := func() (x api.Rec) {
		for i := range x {
			x[i] = words[r.below(len(words))]
		}
		return x
	}
	eachOrder(func(o api.Order) {
		a, b, c := some(), some(), some()
		copy(b[:], a[:r.below(5)]) // so that the first words that are not equal stand anywhere
		if got, want := recs.Compare(o, a, b), compared(o, a, b); got != want || recs.Compare(o, b, a) != -want {
			t.Errorf("Compare(%v, %v, %v) = %d, want %d", o, a, b, got, want)
		}
		if recs.Compare(o, a, a) != 0 || (recs.Compare(o, a, b) == 0) != (a == b) {
			t.Errorf("by %v: 0 is not just for equal records: %v, %v", o, a, b)
		}
		if recs.Compare(o, a, b) < 0 && recs.Compare(o, b, c) < 0 && recs.Compare(o, a, c) >= 0 {
			t.Errorf("by %v: %v is ahead of %v, that of %v", o, a, b, c)
		}
	})
}
