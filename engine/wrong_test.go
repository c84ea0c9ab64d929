package engine_test

import (
	"slices"
	"testing"

	"strata/api"
	"strata/bench"
	"strata/catalog"
	"strata/engine"
	"strata/purse"
	"strata/tape"
)

// TestForeignFiles: a file that the table does not name is neither read nor changed by a call that commits no table; each that does deletes it. P18.8.
func TestForeignFiles(t *testing.T) {
	const k = 2
	base := busy(t, k).m
	foreign := append(litter(k)[:2], some(k, fileName(base.table.NextFile+5), true), some(k, "zz", false), some(k, "dd-x", true))
	wrong := []act{not(99), apply(16, 1, 2), variable(7), text("("), text("x9"), clauses(""), noLoad("", api.ErrText, 1, 1), load(2, bench.Number(2, 6)), rename(2, 1, 1, 0), free(99), swap(7), reorder(0), reorder(2, 0, 1), own(1, api.ErrPerm)}
	for _, a := range slices.Concat(wrong, asks(), steps()) {
		r := opened(t, base, options(3, k))
		for _, f := range foreign {
			r.d.Create(f.Name)
			r.d.Append(f.Name, f.Blocks[0])
			if f.Sealed {
				r.d.Seal(f.Name)
			}
		}
		got, want := a.do(r.e), a.say(r.m)
		if got != want {
			t.Fatalf("%s: %+v, want %+v", a.what, got, want)
		}
		left := r.m.state()
		if r.m.gen == base.gen {
			left = stateOf(k, append(left.Files, foreign...)...)
		}
		if !sameState(r.d.State(), left) {
			t.Errorf("%s: the disk holds %v", a.what, r.d.Names())
		}
	}
}

// TestPowerOff by another's call: all but what is told from memory is refused. P18.6, P18.7.
func TestPowerOff(t *testing.T) {
	base := busy(t, 2).m
	from := opened(t, base, options(3, 2)).d.Counts().Calls
	r := opened(t, base, options(3, 2), api.Trouble{At: from, Kind: api.TrCut})
	peak := r.e.Peak()
	r.d.Create("a")
	for _, a := range slices.Concat(steps(), asks(), everyCall(nil), everyCallOf(99), []act{reorder(2, 0, 1), reorder(1)}) {
		if got := a.do(r.e); got != refused(api.ErrOff) {
			t.Errorf("%s: %+v", a.what, got)
		}
	}
	r.tells("off", base)
	if r.e.Peak() != peak {
		t.Errorf("Peak %d, then %d", peak, r.e.Peak())
	}
}

// oddFiles are what a row's file may be on a disk that was made by hand: over other levels, of other kinds, in rows and no node files, none at all.
func oddFiles(k int) map[string]api.File {
	of := func(kind int, list ...api.Rec) api.File { return strip("", kind, k, list) }
	out := map[string]api.File{
		"no blocks":         {Sealed: true},
		"a block of none":   some(k, "", true),
		"no end":            of(api.KindNodes, api.Rec{1, 2, 3, 4}),
		"another kind":      of(api.KindRaw, bench.Canon(3, bench.Number(3, 0x6a))...),
		"two levels":        of(api.KindNodes, bench.Canon(2, bench.Number(2, 6))...),
		"five levels":       of(api.KindNodes, bench.Canon(5, bench.Number(5, 0x6a35))...),
		"no levels":         of(api.KindNodes, end(0, T, 0)),
		"many levels":       of(api.KindNodes, end(65536, T, 0)),
		"a node far below":  of(api.KindNodes, api.Rec{node(9, 0), F, T}, end(10, node(9, 0), 1)),
		"more than it says": of(api.KindNodes, append([]api.Rec{{1}}, bench.Canon(3, bench.Number(3, 6))...)...),
	}
	for i, list := range bench.Gaps() {
		out["a gap "+string(rune('0'+i))] = of(api.KindNodes, list...)
	}
	d := bench.Dice(9)
	for i := range 40 {
		out["bent "+string(rune('A'+i))] = of(api.KindNodes, d.Bend(bench.Canon(3, d.Table(3)))...)
		out["any "+string(rune('A'+i))] = of(api.KindNodes, d.AnyFile(3)...)
	}
	return out
}

// TestOddFiles behind handles: each call ends, and where it is refused all is as before; where not, what is there is told by a catalog. G1, G8, W5, W6.
func TestOddFiles(t *testing.T) {
	const k = 2
	one := begin(t, k, room, options(3, k))
	one.script(text("x0 & x1 | x2"), swap(1))
	for _, base := range []*model{busy(t, k).m, one.m} {
		for what, odd := range oddFiles(k) {
			odd.Name = fileName(base.table.Rows[0].File)
			oddly(t, what, base, odd)
		}
	}
}

// oddly makes each call on a disk on which a file is another one.
func oddly(t *testing.T, what string, base *model, odd api.File) {
	t.Helper()
	st := base.state()
	for i, f := range st.Files {
		if f.Name == odd.Name {
			st.Files[i] = odd
		}
	}
	for _, a := range slices.Concat(steps(), asks(), everyCallOf(1)) {
		d := mount(t, st, room)
		e, no := engine.Open(d, options(3, base.k))
		if no != api.OK {
			t.Fatalf("%s: Open: %d", what, no)
		}
		got := a.do(e)
		if got.fault != (api.Fault{}) && (got.said != "" || !sameState(d.State(), st)) {
			t.Fatalf("%s: %s: %+v, the disk holds %v", what, a.what, got, d.Names())
		}
		p, _ := purse.New(1000)
		desk, _ := tape.NewDesk(d, p)
		r, _, no := catalog.Read(desk)
		if no != api.OK || len(r.Rows) != len(e.Handles()) || !slices.Equal(r.Order, e.Order()) {
			t.Fatalf("%s: %s: the catalog: %d, %+v", what, a.what, no, r)
		}
	}
}

// TestManyVariables: as many as there may be, in blocks of each length. P18.1, P18.2, P18.5.
func TestManyVariables(t *testing.T) {
	const vars = 65536
	for _, k := range []int{1, 100, 2047} {
		r := bare(t, k, options(vars, k))
		if got := r.e.Order(); len(got) != vars || got[0] != 0 || got[vars-1] != vars-1 {
			t.Errorf("Order of %d", len(got))
		}
		if h, no := r.e.Cube([]api.Lit{{Level: vars - 1, Value: true}, {Level: 0}}); h != 1 || no != api.OK {
			t.Errorf("Cube: %d, %d", h, no)
		}
		if h, f := r.e.Formula("x65535 & x7"); h != 2 || f.Code != api.OK {
			t.Errorf("Formula: %d, %v", h, f)
		}
		if no := r.e.Swap(vars - 2); no != api.OK || r.e.Order()[vars-1] != vars-2 {
			t.Errorf("Swap: %d", no)
		}
		if list, no := r.e.Support(2); !slices.Equal(list, []int{7, 65535}) || no != api.OK {
			t.Errorf("Support: %v, %d", list, no)
		}
		if bits, no := r.e.First(1); len(bits) != vars || bits[0] || !bits[vars-1] || no != api.OK {
			t.Errorf("First: %d", no)
		}
		if x, no := r.e.Density(1); x != 0.25 || no != api.OK {
			t.Errorf("Density: %v, %d", x, no)
		}
		d := mount(t, r.d.State(), room)
		again, no := engine.Open(d, options(vars, k))
		if no != api.OK || !slices.Equal(again.Order(), r.e.Order()) || !sameState(d.State(), r.d.State()) {
			t.Errorf("Open: %d", no)
		}
	}
}

// TestNothingShared: two engines on two disks know nothing of one another. G2.
func TestNothingShared(t *testing.T) {
	a, b := busy(t, 2), begin(t, 3, room, options(1, 3))
	a.script(not(1), swap(0))
	b.script(variable(0))
	a.rests("the first")
	b.rests("the second")
}
