package engine_test

import (
	"testing"

	"strata/api"
	"strata/tape"
)

// handMade is a model of a disk that nobody has come to by steps: so many rows, of files with numbers from first on, each of as many handles as may share one.
func handMade(k, vars, rows, share int, next int, first, nextFile, gen uint64) *model {
	m := newModel(k, room, options(vars, k))
	m.gen = gen
	m.table.Next, m.table.NextFile = next, nextFile
	for i := range rows {
		n := first + uint64(i/share)
		m.table.Rows = append(m.table.Rows, api.Row{Handle: next - rows + i, File: n})
		m.files[n] = make([]bool, 1<<vars)
		m.files[n][0] = i%3 == 0
	}
	return m
}

// makes are the steps that make a file of a handle, over one variable.
func makes(f int) []act {
	return []act{constant(true), variable(0), cube(), text("x0"), clauses("p cnf 1 0\n"), load(1, []bool{true, false}), not(f), apply(6, f, f), ite(f, f, f), restrict(f), exists(f), forall(f, 0), compose(f, 0, f), rename(f, 0), own(f, api.OK)}
}

// wrongOnes are such steps with wrong arguments, and what is told of these.
func wrongOnes(f int) map[api.Errno][]act {
	return map[api.Errno][]act{
		api.ErrLevel:  {variable(1), cube(litsOf([]int{0, 0})...), text("x1"), clauses("p cnf 2 0\n"), restrict(f, litsOf([]int{1})...), exists(f, 1), forall(f, -1), compose(f, 1, f), rename(f, 1)},
		api.ErrHandle: {not(0), apply(6, f, 0), ite(0, f, f), restrict(0), exists(0), forall(0), compose(f, 0, 0), rename(0, 0), copyOf(0), free(0)},
		api.ErrOp:     {apply(16, f, f)},
		api.ErrArg:    {rename(f, 0, 0), rename(f)},
	}
}

// TestManyHandles: 1024 are live, and none more; Free makes room. P18.2, P18.10.
func TestManyHandles(t *testing.T) {
	const k, rows = 5, 1024
	for _, full := range []*model{handMade(k, 1, rows, 7, rows+1, 1, 500, 9), handMade(k, 1, rows, 7, 1<<31, 1, last, last)} {
		r := opened(t, full, options(1, k))
		r.rests("1024 handles")
		f := r.e.Handles()[7]
		for _, a := range append(makes(f), copyOf(f), noLoad("", api.ErrText, 1, 1), load(2, []bool{true, false, true, true})) {
			r.is(a, refused(api.ErrMany)) // ahead of ErrWorn, and of what is wrong with a text of Load
		}
		for want, list := range wrongOnes(f) {
			for _, a := range list {
				r.is(a, refused(want)) // all else is ahead of it
			}
		}
	}
	r := opened(t, handMade(k, 1, rows, 7, rows+1, 1, 500, 9), options(1, k))
	r.is(free(500), refused(api.OK))
	r.is(copyOf(3), said(rows+1))
	r.is(copyOf(3), refused(api.ErrMany))
	r.is(free(3), refused(api.OK))
	r.is(not(4), said(rows+2))
	r.is(swap(0), refused(api.ErrLevel))
	r.is(sift(), refused(api.OK))
	r.is(equal(1, rows+2), said(false))
}

// TestTheLastHandle: the one behind it is refused for ever. P18.2, P18.10.
func TestTheLastHandle(t *testing.T) {
	r := opened(t, handMade(2, 1, 3, 1, 1<<31-2, 4, 9, 7), options(1, 2))
	r.is(not(1<<31-3), said(1<<31-2))
	r.is(copyOf(1<<31-3), said(1<<31-1))
	f := 1<<31 - 3
	for _, gone := range []int{1<<31 - 1, 1<<31 - 4} { // that does not help
		for _, a := range append(makes(f), copyOf(f), noLoad("", api.ErrText, 1, 1)) {
			r.is(a, refused(api.ErrWorn))
		}
		for want, list := range wrongOnes(f) {
			for _, a := range list {
				r.is(a, refused(want))
			}
		}
		r.is(free(gone), refused(api.OK))
		r = opened(t, r.m, r.o)
	}
	r.is(copyOf(f), refused(api.ErrWorn))
	r.is(reorder(0), refused(api.OK))
	r.does(count(f))
}

// TestTheLastFile: number 2^64 - 1 is never used; Copy and Free need none. P18.2, P18.4, P18.10.
func TestTheLastFile(t *testing.T) {
	r := opened(t, handMade(2, 1, 3, 1, 9, 4, last-1, 7), options(1, 2))
	r.is(not(8), said(9))
	if name, _ := r.e.File(9); name != "dd-fffffffffffffffe" {
		t.Errorf("file %q", name)
	}
	for _, a := range append(makes(9), noLoad("", api.ErrText, 1, 1)) {
		r.is(a, refused(api.ErrWorn))
	}
	for want, list := range wrongOnes(9) {
		for _, a := range list {
			r.is(a, refused(want))
		}
	}
	r.is(copyOf(9), said(10))
	r.is(free(9), refused(api.OK))
	r.is(count(10), said(2))
}

// TestFilesOfOrders: an order is taken as long as there are numbers for all files, each once. P18.4.
func TestFilesOfOrders(t *testing.T) {
	for rows := range 5 {
		for share := 1; share <= 2; share++ {
			files := uint64(rows+share-1) / uint64(share)
			for left := range files + 2 {
				for _, a := range []act{swap(0), reorder(1, 0)} {
					r := opened(t, handMade(2, 2, rows, share, 9, 4, last-left, 7), options(2, 2))
					want := api.OK
					if files > left {
						want = api.ErrWorn
					}
					r.is(a, refused(want))
				}
			}
		}
	}
	r := opened(t, handMade(2, 2, 0, 1, 9, 4, last, 7), options(2, 2))
	r.is(sift(), refused(api.OK))
	r.is(swap(0), refused(api.OK)) // no file is needed
}

// TestTheLastGeneration: there is none behind it; asks go on. P18.2 to P18.4.
func TestTheLastGeneration(t *testing.T) {
	for _, gen := range []uint64{last, last - 1} {
		steps := append(makes(8), copyOf(8), free(8), swap(0), reorder(1, 0))
		for i, a := range steps {
			r := opened(t, handMade(2, 2, 3, 1, 9, 4, 9, gen), options(2, 2))
			if a.what == load(1, []bool{true, false}).what || a.what == rename(8, 0).what {
				continue // of one variable
			}
			if gen == last-1 {
				if got := r.does(a); got.fault.Code != api.OK {
					t.Errorf("%s: %+v", a.what, got)
				}
			}
			r.is(free(7), refused(api.ErrWorn))
			r.is(steps[(i+1)%2], refused(api.ErrWorn))
			r.is(swap(0), refused(api.ErrWorn))
			r.is(count(6), said(1))
			r.is(reorder(r.e.Order()...), refused(api.OK))
		}
	}
}

// TestNothingAheadOfTheFunction: where a step of one's own is refused ahead of its function, that is not called. P18.10.
func TestNothingAheadOfTheFunction(t *testing.T) {
	for what, m := range map[api.Errno]*model{
		api.ErrMany: handMade(5, 1, 1024, 3, 1025, 1, last, 9), // ahead of ErrWorn
		api.ErrWorn: handMade(2, 1, 3, 1, 9, 4, last, 7),
	} {
		r := opened(t, m, options(1, m.k))
		called := 0
		h, no := r.e.Step(func(*tape.Desk, string) api.Errno { called++; return api.OK })
		if h != 0 || no != what || called != 0 {
			t.Errorf("%d, %d, called %d times, want %d", h, no, called, what)
		}
		r.rests(what)
	}
}
