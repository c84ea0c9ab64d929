package calc_test

import (
	"testing"

	"strata/api"
	"strata/bench"
)

// tryWrong makes all deeds of another trio over these files: each ends, and answers an error or makes a node file; all else is as before. How many are refused, and with what.
func tryWrong(t *testing.T, r *bench.Dice, n, k int, lists ...[]api.Rec) map[api.Errno]int {
	t.Helper()
	told := map[api.Errno]int{}
	b := bench.Lie(t, k, bench.Files(lists...)...)
	for _, d := range anyTrio(r, n).deeds(r) {
		e := d.do(b.Desk, "out")
		told[e]++
		if e == api.OK {
			more := b.Stays(d.what)
			if len(more) != 1 || more[0].Name != "out" || !more[0].Sealed {
				t.Fatalf("%s of %v: the disk holds %v", d.what, lists, b.Disk().Names())
			}
			b.Records("out", api.KindNodes)
			b.Disk().Delete("out")
		}
		b.AsBefore(d.what)
	}
	return told
}

// TestBentFiles: node files that are changed here and there. G1, G8.
func TestBentFiles(t *testing.T) {
	t.Parallel()
	r := bench.Dice(60)
	const n = 4
	for range 300 {
		x := anyTrio(&r, n)
		for range 1 + r.Below(3) {
			i := r.Below(3)
			x.lists[i] = r.Bend(x.lists[i])
		}
		for e := range tryWrong(t, &r, n, 1+r.Below(3), x.lists[:]...) {
			switch e {
			case api.OK, api.ErrShape, api.ErrArcs, api.ErrVars, api.ErrLevel:
			default:
				t.Fatalf("%v: %d", x.lists, e)
			}
		}
	}
}

// TestAnyRecords: hand-made records of numbers of any size, behind them an end. G1, G8.
func TestAnyRecords(t *testing.T) {
	t.Parallel()
	r := bench.Dice(61)
	const n = 4
	for range 300 {
		tryWrong(t, &r, n, 1+r.Below(2), r.AnyFile(n), r.AnyFile(n), r.AnyFile(n))
	}
}

// TestNodesThatAreNotThere: files in rows, of which a low or a high is at a level that has no node, or has an id that is not there. G8.
func TestNodesThatAreNotThere(t *testing.T) {
	r := bench.Dice(62)
	for _, list := range bench.Gaps() {
		for range 20 {
			tryWrong(t, &r, 4, 1, list, list, list)
		}
	}
}
