package catalog_test

import (
	"slices"
	"testing"

	"strata/api"
	"strata/bench"
)

// anyTable is a formed table, whose files are of the numbers below 5.
func anyTable(d *bench.Dice) api.Rows {
	vars := d.Below(5)
	r := api.Rows{Vars: vars, Order: d.Some(vars, vars), NextFile: uint64(d.Below(6)), Next: 1 + d.Below(3)}
	for range d.Below(4) {
		if r.NextFile > 0 {
			r.Rows = append(r.Rows, api.Row{Handle: r.Next, File: uint64(d.Below(int(r.NextFile)))})
			r.Next += 1 + d.Below(2)
		}
	}
	return r
}

// bendTable changes a table in one place.
func bendTable(d *bench.Dice, r api.Rows) api.Rows {
	r.Order, r.Rows = slices.Clone(r.Order), slices.Clone(r.Rows)
	switch d.Below(5) {
	case 0:
		r.Vars += d.Below(3) - 1
	case 1:
		r.Order = append(r.Order, d.Below(4))
	case 2:
		r.Next = d.Below(4) - 1
	case 3:
		r.NextFile = uint64(d.Below(3))
	case 4:
		r.Rows = append(r.Rows, api.Row{Handle: d.Below(9), File: uint64(d.Below(9))})
	}
	return r
}

// anyDisk holds diagrams' files, catalogs and others, sealed or not.
func anyDisk(d *bench.Dice, k int) api.State {
	var files []api.File
	for n := range 5 {
		if way := d.Below(8); way > 0 {
			f := dd(k, uint64(n))
			f.Sealed = way > 1
			files = append(files, f)
		}
	}
	for _, gen := range d.Some(6, d.Below(4)) {
		f := cat(k, uint64(gen), anyTable(d))
		if d.Below(6) == 0 {
			f = tape(f.Name, api.KindTable, k, recordsOf(bendTable(d, anyTable(d)), uint64(gen+d.Below(2))))
		}
		f.Sealed = d.Below(4) > 0
		files = append(files, f)
	}
	for _, name := range []string{"a", "cat-1", "dd-1", "tmp-1", "zz"} {
		if d.Below(3) == 0 {
			files = append(files, some(k, name, d.Below(2) == 0))
		}
	}
	return disk(k, files...)
}

// TestAnyDisks: the three calls over disks of all sorts, by the chapter's words. P17.2 to P17.4, P17.6, P17.8.
func TestAnyDisks(t *testing.T) {
	d := bench.Dice(170)
	var reads, writes [200]int
	for range 20000 {
		st := anyDisk(&d, 1+d.Below(4))
		want := readOf(st)
		reads[want.e]++
		readsAs(bed(t, st), "Read", want)
		b := bed(t, st)
		recoversAs(b, "Recover", want)
		if want.e == api.OK {
			calls := b.Disk().Counts()
			recoversAs(b, "Recover again", want)
			readsAs(b, "Read again", want)
			if now := b.Disk().Counts(); now.Calls-calls.Calls != now.Reads-calls.Reads {
				t.Fatalf("Recover behind Recover has asked for more than blocks")
			}
		}
		r := anyTable(&d)
		if d.Below(5) == 0 {
			r = bendTable(&d, r)
		}
		b = bed(t, st)
		gen := []uint64{want.gen, 0, 1, 2, 3, 4, 5, 6, 7, 1 << 40, last - 1, last}[d.Below(12)]
		e := commits(b, "Commit", r, gen)
		if writes[e]++; e == api.OK {
			readsAs(b, "Read behind Commit", answer{r, gen + 1, api.OK})
			recoversAs(b, "Recover behind Commit", answer{r, gen + 1, api.OK})
		}
	}
	for _, e := range []api.Errno{api.OK, api.ErrRows} {
		if reads[e] < 100 {
			t.Errorf("reads %d: %d", e, reads[e])
		}
	}
	for _, e := range []api.Errno{api.OK, api.ErrRows, api.ErrWorn, api.ErrExists, api.ErrNoFile, api.ErrOpen} {
		if writes[e] < 100 {
			t.Errorf("commits %d: %d", e, writes[e])
		}
	}
}

// TestGenerations: one behind the other, and such as are skipped, up to the last. P17.3, P17.8.
func TestGenerations(t *testing.T) {
	b := bed(t, disk(1, dd(1, 0)))
	for _, gen := range []uint64{0, 1, 2, 3, 9, 10, 15, 16, 17, 4095, 4096, 1<<63 - 1, 1 << 63, last - 2, last - 1} {
		r := table(1, 2, 1, api.Row{Handle: 1})
		b.Is(gen, commits(b, gen, r, gen), api.OK)
		for _, older := range []uint64{0, gen / 2, gen} {
			b.Is(gen, commits(b, gen, r, older), api.ErrExists)
		}
		readsAs(b, gen, answer{r, gen + 1, api.OK})
	}
	b.Is("behind the last", commits(b, "behind the last", table(1, 1, 1), last), api.ErrWorn)
	b.Is("behind the last", commits(b, "behind the last", table(1, 1, 1), last-1), api.ErrExists)
	recoversAs(b, "the last", answer{table(1, 2, 1, api.Row{Handle: 1}), last, api.OK})
}

// TestACatalogInTheWay: one that is not sealed stands in the way as one that is; the one on which the caller stands may be there or not. P17.3.
func TestACatalogInTheWay(t *testing.T) {
	const k = 1
	r := table(2, 1, 1)
	for _, sealed := range []bool{false, true} {
		for there := range uint64(6) {
			for gen := range uint64(6) {
				b := bed(t, disk(k, some(k, catName(there), sealed)))
				want := api.OK
				if there > gen {
					want = api.ErrExists
				}
				b.Is([]any{there, sealed, gen}, commits(b, there, r, gen), want)
			}
		}
	}
}

// TestWhichFileIsTold: from the least number on, whatever the order of the rows. P17.3.
func TestWhichFileIsTold(t *testing.T) {
	const k = 1
	r := table(0, 9, 1<<40, api.Row{Handle: 1, File: 1 << 36}, api.Row{Handle: 2, File: 10}, api.Row{Handle: 3, File: 9}, api.Row{Handle: 5, File: 200}, api.Row{Handle: 6, File: 10})
	numbers := []uint64{9, 10, 200, 1 << 36}
	for first := range numbers {
		for _, c := range []struct {
			sealed bool // of those behind, which are then there
			want   api.Errno
		}{{true, api.ErrNoFile}, {false, api.ErrOpen}} {
			var files []api.File
			for i, n := range numbers {
				switch {
				case i < first:
					files = append(files, dd(k, n))
				case i == first && c.want == api.ErrOpen:
					files = append(files, some(k, fileName(n), false))
				case i > first && c.want == api.ErrNoFile:
					files = append(files, some(k, fileName(n), false))
				}
			}
			b := bed(t, disk(k, files...))
			b.Is(first, commits(b, first, r, 0), c.want)
		}
	}
}
