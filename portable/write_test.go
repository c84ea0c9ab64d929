package portable_test

import (
	"sort"
	"testing"

	"strata/api"
	"strata/bench"
	"strata/portable"
)

// TestAllSmallFunctions: each function over no to three levels. P16.1, P16.3, P16.4.
func TestAllSmallFunctions(t *testing.T) {
	for n := range 4 {
		for bits := range 1 << (1 << n) {
			list := bench.Canon(n, bench.Number(n, bits))
			b := bench.Lie(t, 1+bits%3, bench.Files(list)...)
			tells(b, "f", list)
			loads(b, dumpOf(list), list)
		}
	}
}

// TestFunctions: larger ones, over blocks and purses of many sizes: what is told hangs on none of these. P16.1 to P16.4, G9.
func TestFunctions(t *testing.T) {
	t.Parallel()
	r := bench.Dice(1)
	for i := range 60 {
		n := r.Below(11)
		table := r.Table(n)
		if i%3 == 0 {
			table = r.Thin(n)
		}
		list := bench.Canon(n, table)
		for _, k := range []int{1, 2 + r.Below(5), 100} {
			b := bench.Mount(t, bench.Holds(t, k, bench.Files(list)...), k*(api.LeastK+r.Below(200)))
			tells(b, "f", list)
			loads(b, dumpOf(list), list)
		}
	}
}

// TestSpreadLevels: levels up to the last one, of one to five digits. P16.1 to P16.4.
func TestSpreadLevels(t *testing.T) {
	r := bench.Dice(2)
	for range 40 {
		places := [][]int{{0, 1, 9, 10, 99, 100}, {0, 7, 999, 1000, 9999, 10000}, {5, 60000, 65532, 65533, 65534, 65535}}[r.Below(3)]
		n := most - r.Below(2)*(most-1-places[5])
		list := bench.Spread(bench.Canon(6, r.Table(6)), n, places)
		b := bench.Lie(t, 3, bench.Files(list)...)
		tells(b, "f", list)
		loads(b, dumpOf(list), list)
	}
}

// TestLeaves: over no levels and over the most. P16.1 to P16.4.
func TestLeaves(t *testing.T) {
	for _, n := range []int{0, 1, 2, 65535, most} {
		for _, leaf := range []api.Ptr{F, T} {
			list := []api.Rec{bench.End(n, leaf, 0)}
			b := bench.Lie(t, 1, bench.Files(list)...)
			tells(b, "f", list)
			loads(b, dumpOf(list), list)
		}
	}
}

// TestALongText: a text that is longer than any that is read is written all the same. P16.1, P16.2.
func TestALongText(t *testing.T) {
	list := chain(most, upTo(0, most), func(i int) bool { return i%3 == 0 })
	b := bench.Lie(t, 100, bench.Files(list)...)
	tells(b, "f", list)
	text, e := portable.Dump(b.Desk, "f")
	b.Is("Dump", e, api.OK)
	if len(text) <= api.MaxText {
		t.Fatalf("the text has %d bytes", len(text))
	}
	refuses(b, text, api.Fault{Code: api.ErrLong})
}

// TestSopTooMany: a sum of as many nodes as a formula may have, and of one more. P16.4.
func TestSopTooMany(t *testing.T) {
	const half = api.MaxTree / 2
	for _, c := range []struct {
		levels, lows int // a literal each, and one of them or more with a !
		want         api.Errno
	}{{half, 0, api.OK}, {half, 1, api.OK}, {half, 2, api.ErrMany}, {half + 1, 0, api.ErrMany}, {half - 1, 3, api.OK}, {half - 1, 4, api.ErrMany}} {
		list := chain(most, upTo(0, c.levels), func(i int) bool { return i >= c.lows })
		want := sopOf(list)
		if n := treeOf(want); n != 2*c.levels+c.lows-1 {
			t.Fatalf("%d nodes", n)
		}
		b := bench.Lie(t, 50, bench.Files(list)...)
		b.Is(c, refusalOf(want), c.want)
		tells(b, "f", list)
	}
	for more, want := range map[int]api.Errno{0: api.OK, 1: api.ErrMany} { // also of many products
		list := fitting(11, api.MaxTree+more, treeOf)
		if n := treeOf(sopOf(list)); n != api.MaxTree+more {
			t.Fatalf("%d nodes", n)
		}
		b := bench.Lie(t, 50, bench.Files(list)...)
		b.Is(more, refusalOf(sopOf(list)), want)
		tells(b, "f", list)
	}
	for _, c := range []struct {
		levels int
		want   api.Errno
	}{{12, api.OK}, {13, api.ErrMany}, {14, api.ErrMany}, {15, api.ErrLong}} {
		list := parity(20, upTo(3, 3+c.levels))
		b := bench.Lie(t, 1, bench.Files(list)...)
		b.Is(c, refusalOf(sopOf(list)), c.want)
		tells(b, "f", list)
	}
}

// fitting is the node file of a sum that measures just so much, in bytes or in nodes: the parity of a few levels, and beside it one product, which is as long as it must be.
func fitting(few, goal int, measure func(sop string) int) []api.Rec {
	with := func(long, lows int) []api.Rec {
		product := chain(most, upTo(1+few, 1+few+long), func(i int) bool { return i >= lows })
		return choice(product, parity(most, upTo(1, 1+few)))
	}
	missing := func(long int) int { return goal - measure(sopOf(with(long, 0))) }
	long := sort.Search(60000, func(long int) bool { return missing(long) <= long }) // a ! more for each literal, if need be
	return with(long, missing(long))
}

// TestSopTooLong: a sum of just as many bytes as a text may have, and of one more; both have more nodes than a formula may, which is told behind that. P16.4.
func TestSopTooLong(t *testing.T) {
	for more, want := range map[int]api.Errno{0: api.ErrMany, 1: api.ErrLong} {
		bytes := func(sop string) int { return len(sop) }
		list := fitting(14, api.MaxText+more, bytes)
		if n := bytes(sopOf(list)); n != api.MaxText+more {
			t.Fatalf("the sum has %d bytes", n)
		}
		b := bench.Lie(t, 200, bench.Files(list)...)
		text, e := portable.Sop(b.Desk, "f")
		b.Is(more, e, want)
		if text != "" {
			t.Errorf("a text beside %d", e)
		}
		b.AsBefore(more)
	}
}

// TestSopGivesUpEarly: of a diagram with more paths than can be counted no more is read than what makes the text too long. P16.4.
func TestSopGivesUpEarly(t *testing.T) {
	list := parity(most, upTo(0, 40000))
	b := bench.Lie(t, 1, bench.Files(list)...)
	text, e := portable.Sop(b.Desk, "f")
	if text != "" || e != api.ErrLong {
		t.Errorf("%d bytes, %d", len(text), e)
	}
	if reads := b.Disk().Counts().Reads; reads > 60 {
		t.Errorf("%d blocks are read", reads)
	}
	b.AsBefore("Sop")
}

// TestALongProduct: one path through many levels; the text grows at its end. P16.4.
func TestALongProduct(t *testing.T) {
	r := bench.Dice(3)
	for _, lows := range []int{0, 3, 4} {
		list := chain(most, upTo(20000, 41000), func(int) bool { return r.Below(4) >= lows })
		b := bench.Lie(t, 64, bench.Files(list)...)
		b.Is(lows, refusalOf(sopOf(list)), api.OK)
		tells(b, "f", list)
	}
}
