package turn_test

import (
	"slices"
	"testing"

	"strata/api"
	"strata/bench"
	"strata/tape"
	"strata/turn"
)

// blind are calls over the files f and g, over n levels, of which nothing is known.
func blind(r *bench.Dice, n int) []deed {
	level, from := r.Below(n), r.Some(n, n)
	both := []string{"f", "g"}
	made := []bench.Strip{{Name: "p"}, {Name: "q"}}
	list := func(some []int, e api.Errno) (bool, api.Errno) { return e == api.OK || len(some) == 0, e }
	return []deed{
		{"Swap", func(k *tape.Desk) (bool, api.Errno) { return true, turn.Swap(k, "f", level, "p") }, made[:1]},
		{"Reorder", func(k *tape.Desk) (bool, api.Errno) { return true, turn.Reorder(k, both, from, []string{"p", "q"}) }, made},
		{"Cost", func(k *tape.Desk) (bool, api.Errno) { return list(turn.Cost(k, both, level)) }, nil},
		{"Best", func(k *tape.Desk) (bool, api.Errno) { return list(turn.Best(k, both)) }, nil},
	}
}

// tryWrong makes such calls over two files that may be any: each ends, and answers an error and nothing else, or numbers, or makes node files; all else is as before. How often it is refused, and with what.
func tryWrong(t *testing.T, r *bench.Dice, n, k int, lists ...[]api.Rec) map[api.Errno]int {
	t.Helper()
	told := map[api.Errno]int{}
	b := bench.Lie(t, k, bench.Files(lists...)...)
	for _, d := range blind(r, n) {
		right, e := d.do(b.Desk)
		if told[e]++; !right {
			t.Fatalf("%s of %v: it answers something else beside %d", d.what, lists, e)
		}
		if e == api.OK {
			more := b.Stays(d.what)
			if !slices.EqualFunc(more, d.makes, func(f api.File, s bench.Strip) bool { return f.Name == s.Name && f.Sealed }) {
				t.Fatalf("%s of %v: the disk holds %v", d.what, lists, b.Disk().Names())
			}
			for _, s := range d.makes {
				b.Records(s.Name, api.KindNodes)
				b.Disk().Delete(s.Name)
			}
		}
		b.AsBefore(d.what)
	}
	return told
}

// TestBentFiles: node files that are changed here and there. G1, G8.
func TestBentFiles(t *testing.T) {
	t.Parallel()
	r := bench.Dice(60)
	refused, made := 0, 0
	for range 1500 {
		n := 2 + r.Below(3)
		lists := [][]api.Rec{bench.Canon(n, r.Table(n)), bench.Canon(n, r.Thin(n))}
		for range 1 + r.Below(3) {
			i := r.Below(2)
			lists[i] = r.Bend(lists[i])
		}
		for e, times := range tryWrong(t, &r, n, 1+r.Below(3), lists...) {
			switch e {
			case api.OK:
				made += times
			case api.ErrShape, api.ErrArcs, api.ErrVars, api.ErrLevel, api.ErrPerm, api.ErrMany:
				refused += times
			default:
				t.Fatalf("%v: %d", lists, e)
			}
		}
	}
	if refused < 1000 || made < 500 {
		t.Errorf("%d are refused, %d are not", refused, made)
	}
}

// TestAnyRecords: hand-made records of numbers of any size, behind them an end. G1, G8.
func TestAnyRecords(t *testing.T) {
	t.Parallel()
	r := bench.Dice(61)
	const n = 4
	for range 3000 {
		tryWrong(t, &r, n, 1+r.Below(2), r.AnyFile(n), r.AnyFile(n))
	}
}

// TestNodesThatAreNotThere: files in rows, of which a low or a high is at a level that has no node, or has an id that is not there; or to which no arc goes. G8.
func TestNodesThatAreNotThere(t *testing.T) {
	r := bench.Dice(62)
	for _, list := range bench.Gaps() {
		for range 20 {
			tryWrong(t, &r, 4, 1+r.Below(2), list, list)
			tryWrong(t, &r, 4, 1, bench.Canon(4, r.Table(4)), list)
		}
	}
}

// TestEndsThatTellMore: over one level no place is tried, and still a file is not what its end says. G8.
func TestEndsThatTellMore(t *testing.T) {
	for _, count := range []int{2, 1 << 40, 1<<63 - 1} {
		b := bench.Lie(t, 1, bench.Files([]api.Rec{{0, uint64(F), uint64(T)}, bench.End(1, 0, count)})...)
		files := []string{"f", "f", "f"}
		if list, e := turn.Cost(b.Desk, files, 0); e == api.OK && len(list) != 1 || e != api.OK && len(list) > 0 {
			t.Errorf("Cost: %v, %d", list, e)
		}
		if list, e := turn.Best(b.Desk, files); e == api.OK && len(list) != 1 || e != api.OK && len(list) > 0 {
			t.Errorf("Best: %v, %d", list, e)
		}
		b.AsBefore(count)
	}
}
