package engine_test

import (
	"testing"

	"strata/api"
	"strata/bench"
)

// TestTheWayBack: with each number of blocks; of steps that need no others than their file's and the catalog's the answer is told by these. P18.9.
func TestTheWayBack(t *testing.T) {
	for _, k := range []int{1, 2, 3, 5} {
		for blocks := 2 * ((3 + k) / k); blocks < 40; blocks++ {
			r := begin(t, k, blocks, options(3, k))
			full := 0
			for _, a := range []act{constant(true), variable(0), copyOf(1), cube(litsOf([]int{0, 1, 2})...), copyOf(2), variable(2), constant(false), copyOf(1)} {
				if r.does(a).fault.Code == api.ErrFull {
					full++
					if n := r.d.Counts().Full; n != 0 {
						t.Fatalf("K %d, %d blocks: the disk itself was full in %s", k, blocks, a.what)
					}
				}
			}
			if blocks == 39 && full > 0 && k > 1 {
				t.Errorf("K %d: %d are full", k, full)
			}
			r.freesAll()
		}
	}
}

// freesAll frees the handles, one behind the other: none is refused. P18.9.
func (r *rig) freesAll() {
	r.Helper()
	for _, f := range r.m.handles() {
		r.is(free(f), refused(api.OK))
	}
}

// TestSmallDisks: any steps, on disks of few blocks; a step that is refused for room changes nothing, and each handle can be freed. P18.9, W1, W6.
func TestSmallDisks(t *testing.T) {
	own, disk := 0, 0
	for seed := range 150 {
		d := bench.Dice(3000 + seed)
		k := 1 + d.Below(4)
		vars := d.Below(4)
		o := options(vars, k)
		if seed%3 == 0 {
			o.Ids = 1 + d.Below(2)
		}
		r := begin(t, k, 2*((vars+k)/k)+d.Below(50), o)
		for range 40 {
			was := r.d.Counts().Full
			if got := r.does(anyAct(&d, r.m)); got.fault.Code == api.ErrFull && r.d.Counts().Full > was {
				disk++
			} else if got.fault.Code == api.ErrFull {
				own++
			}
		}
		r.freesAll()
	}
	if own < 100 || disk < 100 {
		t.Errorf("ErrFull by the way back %d times, by the disk %d times", own, disk)
	}
}

// TestEachRoom: steps that make, and orders, with each number of blocks from those that are used to enough. P18.9, G7, W6.
func TestEachRoom(t *testing.T) {
	const k = 2
	for _, a := range steps() {
		base := busy(t, k).m
		calm := opened(t, base, options(3, k))
		want := calm.does(a)
		used, most := bench.BlocksIn(base.state()), calm.d.Counts().Most
		for blocks := used; blocks <= most+8; blocks++ {
			m := base.clone()
			m.blocks = blocks
			r := opened(t, m, options(3, k))
			if got := r.does(a); got != want && got != refused(api.ErrFull) {
				t.Fatalf("%s, %d blocks: %+v", a.what, blocks, got)
			} else if got != want && blocks > most+2*((3+5+1+1)/k) {
				t.Fatalf("%s, %d of %d blocks: %+v", a.what, blocks, most, got)
			}
		}
	}
}

// TestADiskThatWasNotKept: with fewer blocks than the way back needs Free is refused where its catalog has no room, and asks go on. P18.3, P18.9.
func TestADiskThatWasNotKept(t *testing.T) {
	base := busy(t, 1).m
	used := bench.BlocksIn(base.state())
	catalog := 3 + len(base.table.Rows) + 1
	for blocks := used; blocks < used+catalog+3; blocks++ {
		m := base.clone()
		m.blocks = blocks
		r := opened(t, m, options(3, 1))
		want := api.OK
		if blocks < used+catalog-1 {
			want = api.ErrFull
		}
		r.is(count(1), said(5))
		r.is(free(1), refused(want))
		r.is(equal(2, 4), said(false))
	}
}

// TestTheWayBackOfOrders: a catalog that is long beside the files may have no room a second time, though the disk itself has room for all that is made. P18.4, P18.9.
func TestTheWayBackOfOrders(t *testing.T) {
	const vars = 12
	base := begin(t, 1, room, options(vars, 1))
	base.script(variable(3), copyOf(1))
	used := bench.BlocksIn(base.m.state())
	for _, a := range []act{swap(3), swap(0), reorder(3, 2, 1, 0, 4, 5, 6, 7, 8, 9, 10, 11)} {
		own := 0
		for blocks := used; blocks < 2*used; blocks++ {
			m := base.m.clone()
			m.blocks = blocks
			r := opened(t, m, base.o)
			if r.does(a) == refused(api.ErrFull) && r.d.Counts().Full == 0 {
				own++
			}
		}
		if own == 0 {
			t.Errorf("%s: never refused for the way back alone", a.what)
		}
	}
}
