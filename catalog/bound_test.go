package catalog_test

import (
	"testing"

	"strata/api"
)

// greatest is the table with all that one may have.
func greatest() api.Rows {
	r := table(api.MaxVars, 1<<31, last)
	for i := range api.MaxLive {
		r.Rows = append(r.Rows, api.Row{Handle: 1<<31 - 1024 + i, File: last - 1 - uint64(i)})
	}
	return r
}

// TestTheGreatestTable goes through the least budget, a block at a time. P17.8, G10.
func TestTheGreatestTable(t *testing.T) {
	for _, k := range []int{1, 7, 2047} {
		r := greatest()
		var files []api.File
		for _, row := range r.Rows {
			files = append(files, dd(k, row.File))
		}
		b := bed(t, disk(k, files...))
		b.Is(k, commits(b, k, r, last-1), api.OK)
		readsAs(b, k, answer{r, last, api.OK})
		recoversAs(b, k, answer{r, last, api.OK})
		if peak := b.Purse().Peak(); peak > b.Hand+api.LeastK*k {
			t.Errorf("K %d: peak %d", k, peak)
		}
	}
}

// TestTooMuchOnATape: one level or one row more than there may be, and many more. P17.2.
func TestTooMuchOnATape(t *testing.T) {
	const k = 15
	levels := func(n int) api.Rows { return table(n, 1, 0) }
	for what, c := range map[string]struct {
		r    api.Rows
		want api.Errno
	}{
		"all levels":       {levels(api.MaxVars), api.OK},
		"a level more":     {levels(api.MaxVars + 1), api.ErrRows},
		"many levels more": {levels(5 * api.MaxVars), api.ErrRows},
		"all rows":         {table(1, 1<<31, 1, many(api.MaxLive)...), api.OK},
		"a row more":       {table(1, 1<<31, 1, many(api.MaxLive+1)...), api.ErrRows},
		"many rows more":   {table(1, 1<<31, 1, many(300*api.MaxLive)...), api.ErrRows},
	} {
		want := answer{c.r, 1, api.OK}
		if c.want != api.OK {
			want = refused(c.want)
		}
		st := disk(k, dd(k, 0), cat(k, 1, c.r))
		b := bed(t, st)
		readsAs(b, what, want)
		recoversAs(b, what, want)
		if peak := b.Purse().Peak(); peak > b.Hand+api.LeastK*k {
			t.Errorf("%s: peak %d", what, peak)
		}
		b = bed(t, disk(k, dd(k, 0)))
		b.Is(what, commits(b, what, c.r, 0), c.want)
	}
}

// TestManyFiles that must go. P17.3, P17.4.
func TestManyFiles(t *testing.T) {
	const k = 1
	var files []api.File
	for n := range uint64(3000) {
		files = append(files, dd(k, n))
		files = append(files, api.File{Name: catName(n + 1), Sealed: n < 2000})
	}
	files = append(files[:4001], files[4002:]...) // that of generation 2001 is sealed and has its records
	files = append(files, cat(k, 2001, table(0, 9, 3000, api.Row{Handle: 3, File: 2999})))
	st := disk(k, files...)
	recoversAs(bed(t, st), "many", answer{table(0, 9, 3000, api.Row{Handle: 3, File: 2999}), 2001, api.OK})
	b := bed(t, st)
	b.Is("many", commits(b, "many", table(1, 2, 3000, api.Row{Handle: 1, File: 17}), 3000), api.OK)
}
