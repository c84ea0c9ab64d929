package turn

import (
	"slices"
	"testing"

	"strata/api"
	"strata/bench"
)

// TestBestPlace: the own place, if it is one of those that cost least; else the first of these. P12.4.
func TestBestPlace(t *testing.T) {
	for _, c := range []struct {
		costs     []int
		own, want int
	}{
		{[]int{7}, 0, 0},
		{[]int{3, 3, 3}, 2, 2},
		{[]int{3, 3, 3}, 1, 1},
		{[]int{4, 3, 5, 3}, 3, 3},
		{[]int{4, 3, 5, 3}, 2, 1},
		{[]int{4, 3, 5, 3}, 0, 1},
		{[]int{9, 8, 7, 6}, 0, 3},
	} {
		if got := bestPlace(c.costs, c.own); got != c.want {
			t.Errorf("%v at %d: %d, want %d", c.costs, c.own, got, c.want)
		}
	}
}

// TestMoved: what stood at a place stands at the other, the rest in its order; the list stays. The inverse tells where each stands.
func TestMoved(t *testing.T) {
	for n := 1; n < 6; n++ {
		bench.Orders(n, func(list []int) {
			for from := range n {
				for to := range n {
					was := slices.Clone(list)
					got := moved(list, from, to)
					rest := slices.Delete(slices.Clone(got), to, to+1)
					if got[to] != list[from] || !slices.Equal(rest, slices.Delete(slices.Clone(list), from, from+1)) || !slices.Equal(list, was) {
						t.Fatalf("%v, %d to %d: %v", list, from, to, got)
					}
				}
			}
			for x, place := range inverse(list) {
				if list[place] != x {
					t.Fatalf("%v: %d stands at %d?", list, x, place)
				}
			}
		})
	}
}

// TestSeatOf: how many others stand ahead of a level that has been moved.
func TestSeatOf(t *testing.T) {
	const n = 5
	for set := range 1 << n {
		for level := range n {
			for place := range n {
				order := moved(upTo(n), level, place)
				var others []int
				want := 0
				for l := range n {
					if l == level || set>>l&1 == 0 {
						continue
					}
					if others = append(others, l); slices.Index(order, l) < place {
						want++
					}
				}
				if got := seatOf(place, level, others); got != want {
					t.Fatalf("%d at %d of %v: seat %d, want %d", level, place, others, got, want)
				}
			}
		}
	}
}

// TestDraft: one temporary at a time, none behind drop; the file itself stays, and so does a draft whose next one is refused.
func TestDraft(t *testing.T) {
	b := bench.Lie(t, 1, bench.Files(bench.Canon(3, bench.Number(3, 0x1b)))...)
	d := newDraft(b.Desk, "f")
	for l := range 2 {
		b.Is("redo", d.redo(func(from, to string) api.Errno { return change(b.Desk, from, pair{l + 1, l}, to) }), api.OK)
		if more := b.Stays("redo"); len(more) != 1 || more[0].Name != d.now {
			t.Fatalf("the disk holds %v", b.Disk().Names())
		}
	}
	now := d.now
	b.Is("refused", d.redo(func(from, to string) api.Errno { return api.ErrShape }), api.ErrShape)
	if more := b.Stays("refused"); d.now != now || len(more) != 1 {
		t.Fatalf("the disk holds %v", b.Disk().Names())
	}
	d.drop()
	d.drop()
	b.AsBefore("drop")
	if d.now != "f" {
		t.Errorf("it is %s", d.now)
	}
}
