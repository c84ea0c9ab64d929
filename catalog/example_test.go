package catalog_test

import (
	"testing"

	"strata/api"
	"strata/bench"
	"strata/catalog"
)

// TestExamples: the chapter's table, one call behind the other.
func TestExamples(t *testing.T) {
	b := bench.Mount(t, api.State{Block: 64}, 64)
	readsAs(b, "an empty disk", answer{})
	recoversAs(b, "an empty disk", answer{})
	one := table(1, 1, 1)
	two := table(1, 2, 2, api.Row{Handle: 1, File: 1})
	if !catalog.Formed(one) {
		t.Errorf("Formed of %+v: false", one)
	}
	for _, r := range []api.Rows{table(1, 0, 1), {Vars: 1, Order: []int{1}, Next: 1, NextFile: 1}, table(1, 1, 2, api.Row{Handle: 1, File: 1}), table(1, 2, 1, api.Row{Handle: 1, File: 1})} {
		if catalog.Formed(r) {
			t.Errorf("Formed of %+v: true", r)
		}
	}
	if f, c := catalog.FileName(26), catalog.Name(255); f != "dd-000000000000001a" || c != "cat-00000000000000ff" {
		t.Errorf("names %s, %s", f, c)
	}
	step := func(what string, r api.Rows, gen uint64, want api.Errno, files ...string) {
		t.Helper()
		b.Is(what, commits(b, what, r, gen), want)
		if got := b.Disk().Names(); len(got) != len(files) {
			t.Errorf("%s: %v, want %v", what, got, files)
		}
		for _, name := range files {
			if _, _, e := b.Disk().Length(name); e != api.OK {
				t.Errorf("%s: %s is not there", what, name)
			}
		}
	}
	const cat1, cat2, cat3, dd1 = "cat-0000000000000001", "cat-0000000000000002", "cat-0000000000000003", "dd-0000000000000001"
	step("no rows", one, 0, api.OK, cat1)
	if list := b.Records(cat1, api.KindTable); len(list) != 2 || list[0] != (api.Rec{0, 0, 0, 1}) || list[1] != (api.Rec{api.Mark, 1, 1, 1}) {
		t.Errorf("records %v", list)
	}
	step("the same again", one, 0, api.ErrExists, cat1)
	step("a row without a file", two, 1, api.ErrNoFile, cat1)
	b.Disk().Create(dd1)
	step("its file not sealed", two, 1, api.ErrOpen, cat1, dd1)
	b.Disk().Seal(dd1)
	b.Disk().Create("x")
	step("a row", two, 1, api.OK, cat2, dd1)
	step("no rows any more", one, 2, api.OK, cat3)
	step("the last generation", one, last, api.ErrWorn, cat3)
}
