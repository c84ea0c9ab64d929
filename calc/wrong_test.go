package calc_test

import (
	"testing"

	"strata/api"
	"strata/bench"
)

// tryWrong makes all deeds of another trio over these files: each ends, and answers an error or makes a node file; all else is as before. How many are refused, and with what.
func tryWrong(t *testing.T, r *bench.Dice, n, k int, lists ...[]api.Rec) map[api.Errno]int {
	t.Helper()
	told := map[api.Errno]int{}
	b := bench.Lie(t, k, bench.Files(lists...)...)
	for _, d := range anyTrio(r, n).deeds(r) {
		e := d.do(b.Desk, "out")
		told[e]++
		if e == api.OK {
			more := b.Stays(d.what)
			if len(more) != 1 || more[0].Name != "out" || !more[0].Sealed {
				t.Fatalf("%s of %v: the disk holds %v", d.what, lists, b.Disk().Names())
			}
			b.Records("out", api.KindNodes)
			b.Disk().Delete("out")
		}
		b.AsBefore(d.what)
	}
	return told
}

// TestBentFiles: node files that are changed here and there. G1, G8.
func TestBentFiles(t *testing.T) {
	t.Parallel()
	r := bench.Dice(60)
	const n = 4
	for range 300 {
		x := anyTrio(&r, n)
		for range 1 + r.Below(3) {
			i := r.Below(3)
			x.lists[i] = r.Bend(x.lists[i])
		}
		for e := range tryWrong(t, &r, n, 1+r.Below(3), x.lists[:]...) {
			switch e {
			case api.OK, api.ErrShape, api.ErrArcs, api.ErrVars, api.ErrLevel:
			default:
				t.Fatalf("%v: %d", x.lists, e)
			}
		}
	}
}

// TestAnyRecords: hand-made records of numbers of any size, behind them an end. G1, G8.
func TestAnyRecords(t *testing.T) {
	t.Parallel()
	r := bench.Dice(61)
	const n = 4
	for range 300 {
		var lists [][]api.Rec
		for range 3 {
			var list []api.Rec
			for range r.Below(4) {
				list = append(list, r.AnyRecord())
			}
			ends := []api.Rec{bench.End(n, T, 0), bench.End(n, bench.At(r.Below(n), 0), len(list)), bench.End(n, bench.At(0, 0), 1<<62), bench.End(n, bench.At(3, 0), 1<<63-1)}
			lists = append(lists, append(list, ends[r.Below(len(ends))]))
		}
		tryWrong(t, &r, n, 1+r.Below(2), lists...)
	}
}

// TestNodesThatAreNotThere: files in rows, of which a low or a high is at a level that has no node, or has an id that is not there. G8.
func TestNodesThatAreNotThere(t *testing.T) {
	r := bench.Dice(62)
	p := func(level, id int) uint64 { return uint64(bench.At(level, id)) }
	leaf0, leaf1 := uint64(F), uint64(T)
	for _, list := range [][]api.Rec{
		{{p(0, 0), leaf0, p(2, 0)}, bench.End(4, bench.At(0, 0), 1)},
		{{p(2, 0), leaf0, p(3, 5)}, {p(0, 0), p(1, 0), p(2, 0)}, bench.End(4, bench.At(0, 0), 2)},
		{{p(3, 0), leaf0, leaf1}, {p(0, 0), leaf0, p(3, 1<<40-1)}, bench.End(4, bench.At(0, 0), 2)},
		{{p(3, 0), leaf0, leaf1}, {p(1, 0), leaf0, leaf1}, {p(0, 0), p(1, 0), leaf1}, bench.End(4, bench.At(0, 0), 3)}, // nothing goes to 3:0
	} {
		for range 20 {
			tryWrong(t, &r, 4, 1, list, list, list)
		}
	}
}
