package catalog_test

import (
	"testing"

	"strata/api"
	"strata/bench"
	"strata/catalog"
)

// TestRefusedCommits: in the order of the chapter's steps, from the last on one refusal more is there. P17.3, G7.
func TestRefusedCommits(t *testing.T) {
	for _, k := range []int{1, 2, 5} {
		least := api.LeastK * k
		good, none := base(), table(3, 0, 5)
		clean := append(filesUpTo(k, 5), cat(k, 3, good), some(k, "x", false))
		open := []api.File{some(k, fileName(0), false), cat(k, 3, good)}
		gone := []api.File{some(k, fileName(3), false), cat(k, 3, good)}
		for _, c := range []struct {
			what  string
			files []api.File
			free  int
			r     api.Rows
			gen   uint64
			want  api.Errno
		}{
			{"nothing wrong", clean, least, good, 3, api.OK},
			{"too little free", clean, least - 1, good, 3, api.ErrBudget},
			{"nothing free", clean, 0, good, 3, api.ErrBudget},
			{"a file not sealed", open, 0, good, 3, api.ErrOpen},
			{"a file not there", gone, 0, good, 3, api.ErrNoFile},
			{"a catalog behind", gone, 0, good, 2, api.ErrExists},
			{"a catalog behind, not sealed", append(gone, some(k, catName(4), false)), 0, good, 3, api.ErrExists},
			{"the last generation", append(gone, cat(k, last, good)), 0, good, last, api.ErrWorn},
			{"no table", append(gone, cat(k, last, good)), 0, none, last, api.ErrRows},
			{"no table, behind", gone, 0, none, 0, api.ErrRows},
			{"the zero table", clean, 0, api.Rows{}, 3, api.ErrRows},
		} {
			st := disk(k, c.files...)
			b := bench.Mount(t, st, c.free)
			b.Is(c.what, catalog.Commit(b.Desk, c.r, c.gen), c.want)
			if c.want != api.OK {
				b.AsBefore(c.what)
				if n := b.Disk().Counts(); n.Calls > 0 {
					t.Errorf("%s: %+v", c.what, n)
				}
			}
			off := bench.Mount(t, st, c.free, api.Trouble{At: 0, Kind: api.TrCut})
			off.Disk().Create("cut")
			off.Is(c.what, catalog.Commit(off.Desk, c.r, c.gen), api.ErrOff)
			off.AsBefore(c.what)
			b.Is(c.what, catalog.Commit(nil, c.r, c.gen), api.ErrArg)
		}
	}
}

// TestRefusedReads: a desk, the power, the purse, ahead of all that is on the disk. P17.2, P17.4, G7.
func TestRefusedReads(t *testing.T) {
	for _, k := range []int{1, 2, 5} {
		for what, files := range map[string][]api.File{
			"nothing":          nil,
			"no catalog":       {some(k, "x", true), some(k, catName(1), false)},
			"a table":          {cat(k, 1, table(2, 1, 1))},
			"a spoilt catalog": {some(k, catName(9), true)},
			"no table":         {cat(k, 1, table(2, 0, 1))},
		} {
			st := disk(k, files...)
			for _, call := range []func(bench.Bench) answer{read, recover1} {
				for _, free := range []int{0, 1, api.LeastK*k - 1} {
					b := bench.Mount(t, st, free)
					b.Still(what, func() {
						if got := call(b); !got.is(refused(api.ErrBudget)) {
							t.Errorf("%s: %d free: %+v", what, free, got)
						}
					})
					b.AsBefore(what)
					off := bench.Mount(t, st, free, api.Trouble{At: 0, Kind: api.TrCut})
					off.Disk().Create("cut")
					if got := call(off); !got.is(refused(api.ErrOff)) {
						t.Errorf("%s: without power: %+v", what, got)
					}
					off.AsBefore(what)
				}
				b := bed(t, st)
				if got, want := call(b), readOf(st); !got.is(want) {
					t.Errorf("%s: %+v, want %+v", what, got, want)
				}
				if got := call(bench.Bench{}); !got.is(refused(api.ErrArg)) {
					t.Errorf("%s: without a desk: %+v", what, got)
				}
			}
		}
	}
}
