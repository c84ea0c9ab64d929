package engine_test

import (
	"slices"
	"testing"

	"strata/api"
	"strata/bench"
)

// TestEachOrder: from each order into each other one; the functions of the variables stay. P18.4, W9.
func TestEachOrder(t *testing.T) {
	r := begin(t, 2, room, options(3, 2))
	r.script(table3()...)
	was := map[int][]bool{}
	for _, h := range r.e.Handles() {
		was[h] = slices.Clone(r.m.function(h))
	}
	bench.Orders(3, func(from []int) {
		bench.Orders(3, func(to []int) {
			r.script(reorder(from...), reorder(to...))
			if got := r.e.Order(); !slices.Equal(got, to) {
				t.Fatalf("Order %v, want %v", got, to)
			}
			for h, table := range was {
				for x, want := range table {
					r.is(eval(h, r.m.bits(x)...), said(want))
				}
			}
		})
	})
	for level := range 2 {
		order := r.e.Order()
		r.is(swap(level), refused(api.OK))
		order[level], order[level+1] = order[level+1], order[level]
		if got := r.e.Order(); !slices.Equal(got, order) {
			t.Errorf("Order %v, want %v", got, order)
		}
	}
}

// TestNoStep: an order that is there already, and sifting that finds none better, ask the disk for no new table; without handles sifting asks it for nothing. P18.4.
func TestNoStep(t *testing.T) {
	r := begin(t, 1, room, options(3, 1))
	silent := func(a act) {
		t.Helper()
		was := r.d.Counts()
		r.is(a, refused(api.OK))
		if now := r.d.Counts(); now != was {
			t.Errorf("%s: %+v, then %+v", a.what, was, now)
		}
	}
	silent(reorder(0, 1, 2))
	silent(sift())
	r.script(text("x0 & x1 | x2"), reorder(2, 0, 1))
	silent(reorder(2, 0, 1))
	r.does(sift())
	gen, order := r.m.gen, r.e.Order()
	r.is(sift(), refused(api.OK))
	if r.m.gen != gen || !slices.Equal(order, r.e.Order()) {
		t.Errorf("sifted again: generation %d, %d; %v", gen, r.m.gen, r.e.Order())
	}
	r.script(free(1))
	silent(sift())
}

// TestOrdersWithoutRows: the table alone has the order. P18.4.
func TestOrdersWithoutRows(t *testing.T) {
	r := begin(t, 1, room, options(3, 1))
	r.script(swap(0), swap(1), reorder(2, 1, 0))
	opened(t, r.m, r.o).rests("opened again")
	r.is(text("x0 & !x2"), said(1))
}

// TestNoOrders: lists that are none, levels that are not there. P18.4.
func TestNoOrders(t *testing.T) {
	r := busy(t, 2)
	for _, list := range [][]int{nil, {0}, {0, 1}, {0, 1, 1}, {0, 1, 3}, {-1, 0, 1}, {0, 1, 2, 3}, {0, 1, 2, 2}, {1 << 62, 0, 1}, {0, 0, 0}, {2, 0}} {
		r.is(reorder(list...), refused(api.ErrPerm))
	}
	for _, level := range []int{-1, 2, 3, -1 << 63, 1<<63 - 1} {
		r.is(swap(level), refused(api.ErrLevel))
	}
	one := begin(t, 1, room, options(1, 1))
	one.is(swap(0), refused(api.ErrLevel))
	one.is(swap(-1), refused(api.ErrLevel))
	one.is(reorder(0), refused(api.OK))
}

// TestSift: it comes to what the words of chapter 12 say, over each file once, in any order; and never makes more nodes. P18.4, W9.
func TestSift(t *testing.T) {
	d := bench.Dice(12)
	less := 0
	for range 40 {
		r := begin(t, 3, room, options(4, 3))
		r.script(reorder(d.Some(4, 4)...), load(4, d.Thin(4)), load(4, d.Table(4)), copyOf(1), copyOf(1), text("x0 & x2 | x1 & x3"))
		was := r.total()
		r.is(sift(), refused(api.OK))
		now := r.total()
		if now > was {
			t.Errorf("%d nodes, then %d", was, now)
		}
		if now < was {
			less++
		}
	}
	if less < 10 {
		t.Errorf("fewer nodes %d times", less)
	}
}

// total is how many nodes the files have together, each once.
func (r *rig) total() int {
	sum := 0
	for _, n := range r.m.numbers() {
		sum += len(r.m.records(r.m.files[n])) - 1
	}
	return sum
}

// TestSiftOfMany: over more than 64 variables it is refused, but where there are no rows. P18.4.
func TestSiftOfMany(t *testing.T) {
	for vars, want := range map[int]api.Errno{64: api.OK, 65: api.ErrMany} {
		r := bare(t, 3, options(vars, 3))
		if no := r.e.Sift(); no != api.OK {
			t.Errorf("%d variables, no rows: %d", vars, no)
		}
		h, no := r.e.Cube(litsOf([]int{0, vars - 1}))
		if h != 1 || no != api.OK {
			t.Fatalf("Cube: %d, %d", h, no)
		}
		st := r.d.State()
		if no := r.e.Sift(); no != want || want != api.OK && !sameState(r.d.State(), st) {
			t.Errorf("%d variables: %d", vars, no)
		}
		if no := r.e.Swap(vars - 2); no != api.OK {
			t.Errorf("Swap: %d", no)
		}
	}
}
