package portable_test

import (
	"testing"

	"strata/api"
	"strata/bench"
	"strata/nodes"
)

// tryWrong makes all calls over a file that may be any: each ends, tells nothing beside an error, and leaves all as it was. How many of them are refused.
func tryWrong(t *testing.T, k int, list []api.Rec) int {
	t.Helper()
	b := bench.Lie(t, k, bench.Files(list)...)
	formed := nodes.Check(b.Desk, "f")
	refused := 0
	for _, c := range calls() {
		text, e := c.do(b.Desk, "f")
		switch e {
		case api.OK:
			if c.what == "Sop" && formed != api.OK { // it goes over all of the file, and sees it
				t.Fatalf("%s of %v: it is no node file", c.what, list)
			}
			if formed == api.OK && text != c.of(list) {
				t.Fatalf("%s of %v: %q", c.what, list, text)
			}
		case api.ErrShape:
			if refused++; text != "" {
				t.Fatalf("%s of %v: %q beside %d", c.what, list, text, e)
			}
		default:
			t.Fatalf("%s of %v: %d", c.what, list, e)
		}
		b.AsBefore(c.what)
	}
	return refused
}

// TestBentFiles: node files that are changed here and there. G1, G8.
func TestBentFiles(t *testing.T) {
	t.Parallel()
	r := bench.Dice(40)
	refused, told := 0, 0
	for range 3000 {
		n := 1 + r.Below(5)
		list := bench.Canon(n, r.Table(n))
		for range 1 + r.Below(3) {
			list = r.Bend(list)
		}
		some := tryWrong(t, 1+r.Below(3), list)
		refused += some
		told += 3 - some
	}
	if refused < 1000 || told < 1000 {
		t.Errorf("%d are refused, %d are not", refused, told)
	}
}

// TestAnyRecords: hand-made records of numbers of any size, behind them an end. G1, G8.
func TestAnyRecords(t *testing.T) {
	t.Parallel()
	r := bench.Dice(41)
	for range 3000 {
		tryWrong(t, 1+r.Below(2), r.AnyFile(4))
	}
}

// TestNodesThatAreNotThere: files in rows, of which a low or a high is not there, or to a node of which no arc goes: a sum of their products is none. G8.
func TestNodesThatAreNotThere(t *testing.T) {
	for _, list := range bench.Gaps() {
		for k := 1; k < 4; k++ {
			if refused := tryWrong(t, k, list); refused != 1 {
				t.Errorf("%v: %d calls are refused", list, refused)
			}
		}
	}
}
