package sorter_test

import (
	"math"
	"slices"
	"testing"

	"strata/api"
	"strata/sorter"
)

func TestExamples(t *testing.T) { // the table of the chapter; Bound's rows stand with Bound
	abc := func(lists ...[]api.Rec) [][]api.Rec { return lists }
	for _, c := range []struct {
		in    [][]api.Rec
		merge bool
		order api.Order
		once  bool
		want  []api.Rec
		e     api.Errno
	}{
		{in: abc(firsts(3, 1, 2, 1)), want: firsts(1, 1, 2, 3)},
		{in: abc(firsts(3, 1, 2, 1)), once: true, want: firsts(1, 2, 3)},
		{in: abc(nil)},
		{in: abc([]api.Rec{{1, 5}, {2, 4}, {0, 5}}), order: api.Order{1, 0, 2, 3}, want: []api.Rec{{2, 4}, {0, 5}, {1, 5}}},
		{in: abc(firsts(1, 4), firsts(2, 3, 4)), merge: true, want: firsts(1, 2, 3, 4, 4)},
		{in: abc(firsts(1, 4), firsts(2, 3, 4)), merge: true, once: true, want: firsts(1, 2, 3, 4)},
		{in: abc(firsts(1, 4), firsts(3, 2)), merge: true, e: api.ErrRise},
		{merge: true},
	} {
		b := mount(t, holds(t, 96, api.KindRaw, c.in...), 8)
		if c.order == (api.Order{}) {
			c.order = plain
		}
		e := call{c.merge, inputs(len(c.in)), "out", api.KindRaw, c.order, c.once, 8}.do(b.Desk)
		if e != c.e {
			t.Fatalf("%+v: %d", c, e)
		}
		if e != api.OK {
			b.asBefore(c)
			continue
		}
		b.made(c, "out", api.KindRaw, c.want)
	}
	b := mount(t, holds(t, 96, api.KindRaw, nil), 7)
	for _, c := range []struct {
		out   string
		share int
		e     api.Errno
	}{{"out", 7, api.ErrShare}, {"out", 8, api.ErrBudget}, {"in0", 8, api.ErrExists}, {"A", 8, api.ErrName}} {
		if e := sorter.Sort(b.Desk, "in0", c.out, api.KindRaw, plain, false, c.share); e != c.e {
			t.Errorf("%+v: %d", c, e)
		}
		b.asBefore(c)
	}
}

// TestSortLengths: every length from none over one run, one more, to several passes; P5.1, P5.4, P5.5.
func TestSortLengths(t *testing.T) {
	most := 0
	for _, size := range []int{64, 96, 160} {
		k := size/32 - 1
		for share := 4 * k; share <= 6*k+1; share += max(1, k-1) {
			r := dice(share)
			for n := range 40*k + 2 {
				list := r.list(n, 2+n%9)
				was := holds(t, size, api.KindNodes, list)
				for _, once := range []bool{false, true} {
					c := call{false, inputs(1), "out", api.KindNodes, plain, once, share}
					b := mount(t, was, share)
					if e := c.do(b.Desk); e != api.OK {
						t.Fatalf("K %d, %+v, %d records: %d", k, c, n, e)
					}
					counts := b.Disk().Counts()
					b.made(c, "out", api.KindNodes, model(plain, once, list))
					reads, appends := sorter.Bound(n, k, share)
					if counts.Reads > reads || counts.Appends > appends {
						t.Fatalf("K %d, %+v, %d records: %d reads, %d appends, bound %d", k, c, n, counts.Reads, counts.Appends, reads)
					}
					if peak := b.Purse().Peak(); peak != b.hand+share {
						t.Fatalf("K %d, %+v, %d records: peak %d", k, c, n, peak)
					}
					most = max(most, reads/max(1, (n+k-1)/k))
				}
			}
		}
	}
	if most < 4 { // runs are made and merged in three passes
		t.Errorf("no length has asked for more than %d passes", most)
	}
}

func TestSortByEachOrder(t *testing.T) { // P5.1
	r := dice(3)
	list := r.list(50, 3)
	was := holds(t, 96, api.KindRaw, list)
	orders := 0
	for i := range 256 {
		o := api.Order{i & 3, i >> 2 & 3, i >> 4 & 3, i >> 6 & 3}
		want := model(o, false, list)
		b := mount(t, was, 10)
		c := call{false, inputs(1), "out", api.KindRaw, o, false, 10}
		e := c.do(b.Desk)
		if o[0] == o[1] || o[0] == o[2] || o[0] == o[3] || o[1] == o[2] || o[1] == o[3] || o[2] == o[3] {
			if e != api.ErrOrder {
				t.Fatalf("%v: %d", o, e)
			}
			b.asBefore(c)
			continue
		}
		if e != api.OK {
			t.Fatalf("%v: %d", o, e)
		}
		b.made(c, "out", api.KindRaw, want)
		orders++
	}
	if orders != 24 {
		t.Errorf("%d orders", orders)
	}
}

func TestEachKind(t *testing.T) { // P5.1, P5.2: the tape that is read, the runs and the tape that is made are of that kind
	for kind := api.KindRaw; kind <= api.KindTable; kind++ {
		for _, n := range []int{3, 30} {
			list := firsts(5, 3, 4)
			for i := range n - 3 {
				list = append(list, api.Rec{uint64(n - i)})
			}
			was := holds(t, 64, kind, list, firsts(1, 2, 3), firsts(1, 7), firsts(2), firsts(0, 9), firsts(8))
			for _, c := range []call{
				{false, inputs(1), "out", kind, plain, false, 5},
				{true, []string{"in1", "in2"}, "out", kind, plain, false, 5},
				{true, []string{"in1", "in2", "in3", "in4", "in5"}, "out", kind, plain, false, 5},
			} {
				b := mount(t, was, 5)
				if e := c.do(b.Desk); e != api.OK {
					t.Fatalf("%+v: %d", c, e)
				}
				var lists [][]api.Rec
				for _, name := range c.in {
					lists = append(lists, read(t, was, name, kind))
				}
				b.made(c, "out", kind, model(plain, false, lists...))
				for other := api.KindRaw; other <= api.KindTable; other++ {
					b := mount(t, was, 5)
					c := c
					if c.kind = other; other == kind {
						continue
					}
					if e := c.do(b.Desk); e != api.ErrKind {
						t.Fatalf("%+v of tapes of kind %d: %d", c, kind, e)
					}
					b.asBefore(c)
				}
			}
		}
	}
}

func TestOneAnswer(t *testing.T) { // P5.6, W3: every order of the records, every share, every K
	base := []api.Rec{{1}, {1}, {2, 9}, {2, 3}, {^uint64(0)}, {0, 0, 0, 1}, {1}}
	for _, once := range []bool{false, true} {
		want := model(plain, once, base)
		tries := 0
		permute(slices.Clone(base), 0, func(list []api.Rec) {
			size := []int{64, 96, 128}[tries%3]
			k := size/32 - 1
			share := 4*k + tries%(5*k)
			tries++
			b := mount(t, holds(t, size, api.KindRaw, list), share)
			c := call{false, inputs(1), "out", api.KindRaw, plain, once, share}
			if e := c.do(b.Desk); e != api.OK {
				t.Fatalf("%v: %d", list, e)
			}
			b.made(c, "out", api.KindRaw, want)
		})
		if tries != 5040 {
			t.Fatalf("%d orders were tried", tries)
		}
	}
}

// permute gives every order of what stands in the list from i on.
func permute(list []api.Rec, i int, each func([]api.Rec)) {
	if i == len(list) {
		each(list)
		return
	}
	for j := i; j < len(list); j++ {
		list[i], list[j] = list[j], list[i]
		permute(list, i+1, each)
		list[i], list[j] = list[j], list[i]
	}
}

func TestEveryShareAndBlock(t *testing.T) { // P5.6, W3, G9: one long tape
	r := dice(8)
	list := r.list(700, 6)
	for _, once := range []bool{false, true} {
		want := model(plain, once, list)
		for _, size := range []int{64, 96, 128, 256, 1024, 65536} {
			k := size/32 - 1
			was := holds(t, size, api.KindInner, list)
			for _, share := range []int{4 * k, 4*k + 1, 5*k - 1, 5 * k, 9 * k, 64 * k, 1000 * k, 1 << 40} {
				b := mount(t, was, share)
				c := call{false, inputs(1), "out", api.KindInner, plain, once, share}
				if e := c.do(b.Desk); e != api.OK {
					t.Fatalf("K %d, %+v: %d", k, c, e)
				}
				counts := b.Disk().Counts()
				b.made(c, "out", api.KindInner, want)
				if reads, appends := sorter.Bound(700, k, share); counts.Reads > reads || counts.Appends > appends {
					t.Fatalf("K %d, %+v: %+v, bound %d", k, c, counts, reads)
				}
			}
		}
	}
}

func TestSortedAgain(t *testing.T) { // P5.6
	for _, once := range []bool{false, true} {
		r := dice(5)
		b := mount(t, holds(t, 64, api.KindRaw, r.list(90, 3)), 7)
		for _, c := range []call{{in: []string{"in0"}, out: "x"}, {in: []string{"x"}, out: "y"}, {in: []string{"x"}, out: "z", merge: true}} {
			c.kind, c.order, c.once, c.share = api.KindRaw, api.Order{3, 1, 0, 2}, once, 7
			if e := c.do(b.Desk); e != api.OK {
				t.Fatalf("%+v: %d", c, e)
			}
		}
		st := b.Disk().State()
		x := read(t, st, "x", api.KindRaw)
		if len(x) == 0 || !slices.Equal(x, read(t, st, "y", api.KindRaw)) || !slices.Equal(x, read(t, st, "z", api.KindRaw)) {
			t.Errorf("once %v: a sorted tape that is sorted again is another", once)
		}
	}
}

func TestShareOfAnySize(t *testing.T) { // G1: the share is no room that is laid out ahead
	for _, share := range []int{math.MaxInt - 5, math.MaxInt - 2052, 1 << 62} {
		for _, size := range []int{64, 96, 65536} {
			was := holds(t, size, api.KindRaw, firsts(2, 1), firsts(1), firsts(3))
			for _, c := range []struct {
				call
				want []api.Rec
			}{
				{call{false, inputs(1), "out", api.KindRaw, plain, false, share}, firsts(1, 2)},
				{call{true, []string{"in1", "in2", "in1", "in2"}, "out", api.KindRaw, plain, true, share}, firsts(1, 3)},
			} {
				b := mount(t, was, math.MaxInt-5)
				if e := c.do(b.Desk); e != api.OK {
					t.Fatalf("%+v: %d", c, e)
				}
				b.made(c, "out", api.KindRaw, c.want)
			}
		}
	}
}
