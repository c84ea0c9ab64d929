package tally_test

import (
	"slices"
	"testing"

	"strata/api"
	"strata/bench"
	"strata/nodes"
	"strata/tally"
)

// tryWrong makes all calls over a file that may be any: each ends, tells nothing beside an error, and leaves all as it was. How many of them are refused.
func tryWrong(t *testing.T, k, turns int, list []api.Rec) int {
	t.Helper()
	b := bench.Lie(t, k, bench.Files(list)...)
	formed := nodes.Check(b.Desk, "f")
	refused := 0
	for i, c := range asks(turns) {
		zero, e := c.do(b.Desk, "f")
		switch e {
		case api.OK:
			if i < 3 && formed != api.OK { // these go over all of the file, and see it
				t.Fatalf("%s of %v: it is no node file", c.what, list)
			}
		case api.ErrShape, api.ErrArg, api.ErrMany, api.ErrLeaf:
			if refused++; !zero {
				t.Fatalf("%s of %v: it tells something beside %d", c.what, list, e)
			}
		default:
			t.Fatalf("%s of %v: %d", c.what, list, e)
		}
		b.AsBefore(c.what)
	}
	last, ended := "", false
	for text, e := range tally.Cubes(b.Desk, "f") {
		if ended || e != api.OK && (e != api.ErrShape || text != "") || e == api.OK && last != "" && text <= last {
			t.Fatalf("Cubes of %v: %q behind %q, %d", list, text, last, e)
		}
		last, ended = text, e != api.OK
	}
	b.AsBefore("Cubes")
	return refused
}

// TestBentFiles: node files that are changed here and there. G1, G8.
func TestBentFiles(t *testing.T) {
	t.Parallel()
	r := bench.Dice(60)
	refused, told := 0, 0
	for range 3000 {
		n := 1 + r.Below(5)
		list := bench.Canon(n, r.Table(n))
		for range 1 + r.Below(3) {
			list = r.Bend(list)
		}
		some := tryWrong(t, 1+r.Below(3), n, list)
		refused += some
		told += 6 - some
	}
	if refused < 1000 || told < 1000 {
		t.Errorf("%d are refused, %d are not", refused, told)
	}
}

// TestAnyRecords: hand-made records of numbers of any size, behind them an end. G1, G8.
func TestAnyRecords(t *testing.T) {
	t.Parallel()
	r := bench.Dice(61)
	const n = 4
	for range 3000 {
		tryWrong(t, 1+r.Below(2), n, r.AnyFile(n))
	}
}

// TestNodesThatAreNotThere: files in rows, of which a low or a high is at a level that has no node, or has an id that is not there; or to which no arc goes. G8.
func TestNodesThatAreNotThere(t *testing.T) {
	for _, list := range bench.Gaps() {
		for k := 1; k < 4; k++ {
			if refused := tryWrong(t, k, 4, list); refused < 4 {
				t.Errorf("%v: only %d calls are refused", list, refused)
			}
		}
	}
}

// TestNodesThatAreNotThereWait: the same, where what is sent to them is on the disk when that is seen. G8, G10.
func TestNodesThatAreNotThereWait(t *testing.T) {
	r := bench.Dice(63)
	const n = 10
	for range 10 {
		list := bench.Canon(n, r.Table(n))
		for i, rec := range list[:len(list)-1] {
			lastOfItsLevel := list[i+1][0]>>40 != rec[0]>>40 // it stays behind the others if its low is greater
			if !lastOfItsLevel || rec[1] >= 1<<63 {
				continue
			}
			bent := slices.Clone(list)
			bent[i][1] += 1 << 20
			if refused := tryWrong(t, 1, n, bent); refused < 4 {
				t.Errorf("node %x: only %d calls are refused", rec, refused)
			}
		}
	}
}
