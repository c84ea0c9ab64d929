package engine_test

import (
	"bytes"
	"testing"

	"strata/api"
	"strata/bench"
	"strata/disk"
	"strata/engine"
)

// some is a file with a block that is none.
func some(k int, name string, sealed bool) api.File {
	return api.File{Name: name, Sealed: sealed, Blocks: [][]byte{bytes.Repeat([]byte{7}, 32*(k+1))}}
}

// litter are files that no catalog names; such a catalog among them as was never sealed.
func litter(k int) []api.File {
	return []api.File{some(k, "a", true), some(k, "cat-1", true), some(k, catName(99), false), some(k, catName(0), true), some(k, fileName(77), true), some(k, fileName(78), false), some(k, "tmp-1", false), some(k, "tmp-2.i", true), some(k, "zz", false)}
}

// opensNot fails the test unless an Open is refused so, and leaves just that.
func opensNot(t *testing.T, what any, d *disk.Disk, o api.Options, want api.Errno, left api.State) {
	t.Helper()
	e, no := engine.Open(d, o)
	if e != nil || no != want {
		t.Fatalf("%v: Open(%+v): %v, %d, want %d", what, o, e != nil, no, want)
	}
	if got := d.State(); !sameState(got, left) {
		t.Fatalf("%v: the disk holds %v, want %v", what, namesIn(got), namesIn(left))
	}
}

// TestOptions: the edges of each number. P18.1.
func TestOptions(t *testing.T) {
	for _, k := range []int{1, 2, 7, 2047} {
		st := stateOf(k, litter(k)...)
		least := 64 * k
		for _, o := range []api.Options{{Vars: -1, Budget: least, Ids: 1}, {Vars: 65537, Budget: least, Ids: 1}, {Vars: -1 << 63, Budget: least, Ids: 1}, {Vars: 1<<63 - 1, Budget: least, Ids: 1},
			{Vars: 1, Budget: least - 1, Ids: 1}, {Vars: 1, Budget: 0, Ids: 1}, {Vars: 1, Budget: -1, Ids: 1}, {Vars: 1, Budget: -1 << 63, Ids: 1},
			{Vars: 1, Budget: least, Ids: 0}, {Vars: 1, Budget: least, Ids: -1}, {Vars: 1, Budget: least, Ids: 1<<40 + 1}, {Vars: 1, Budget: least, Ids: 1<<63 - 1}, {}} {
			d := mount(t, st, room)
			opensNot(t, k, d, o, api.ErrArg, st)
			if d.Counts().Calls != 0 {
				t.Errorf("%+v: the disk was asked", o)
			}
			if e, no := engine.Open(nil, o); e != nil || no != api.ErrArg {
				t.Errorf("%+v, no disk: %d", o, no)
			}
		}
		for _, o := range []api.Options{{Vars: 0, Budget: least, Ids: 1}, {Vars: 1, Budget: least, Ids: 1 << 40}, {Vars: 3, Budget: 1<<63 - 1, Ids: 2}} {
			r := begin(t, k, room, o)
			r.is(constant(true), said(1))
		}
	}
	if e, no := engine.Open(nil, options(2, 1)); e != nil || no != api.ErrArg {
		t.Errorf("no disk: %d", no)
	}
}

// TestOpenWithoutPower: ahead of the options. P18.1.
func TestOpenWithoutPower(t *testing.T) {
	d := mount(t, stateOf(1), room, api.Trouble{Kind: api.TrCut})
	d.Create("a")
	for _, o := range []api.Options{options(2, 1), {}, {Vars: -1}} {
		opensNot(t, "off", d, o, api.ErrOff, stateOf(1))
	}
}

// TestFirstTable: all files go where no catalog is sealed, and the first table is the order 0, 1, 2 .. P18.1.
func TestFirstTable(t *testing.T) {
	for _, k := range []int{1, 3} {
		for vars := range 5 {
			o := options(vars, k)
			d := mount(t, stateOf(k, litter(k)...), room)
			e, no := engine.Open(d, o)
			if no != api.OK {
				t.Fatalf("Open: %d", no)
			}
			r := &rig{t, d, e, newModel(k, room, o), o}
			r.rests("a disk without a catalog")
			r.is(constant(true), said(1))
		}
	}
}

// TestTakenOver: an engine goes on with what the newest catalog tells, and all other files go. P18.1, P18.8.
func TestTakenOver(t *testing.T) {
	for _, k := range []int{1, 3} {
		was := busy(t, k)
		old := catalogOf(k, api.Rows{Vars: 9, Order: []int{8, 7, 6, 5, 4, 3, 2, 1, 0}, Next: 1, NextFile: 1}, was.m.gen-1)
		st := stateOf(k, append(append(litter(k), old), was.m.state().Files...)...)
		for _, o := range []api.Options{was.o, {Vars: 3, Budget: 5000, Ids: 1}} {
			d := mount(t, st, room)
			e, no := engine.Open(d, o)
			if no != api.OK {
				t.Fatalf("Open: %d", no)
			}
			r := &rig{t, d, e, was.m.clone(), o}
			r.m.ids = o.Ids
			r.rests("a disk with a catalog")
			r.script(not(2), constant(true), sift(), count(2), free(1))
		}
	}
}

// wrongDisk is a disk that is refused.
type wrongDisk struct {
	what string
	st   api.State
	want api.Errno
}

// wrongDisks are those with a newest catalog that is none; each with the refusal of an Open over three variables.
func wrongDisks(t *testing.T, k int) []wrongDisk {
	m := busy(t, k).m
	with := func(gen uint64, f api.File) api.State {
		f.Name = catName(gen)
		return stateOf(k, append(append(litter(k)[3:], f), m.state().Files...)...)
	}
	table := m.table
	spoilt := catalogOf(k, table, 50)
	spoilt.Blocks[0][9] ^= 1
	noRows := table
	noRows.Rows = append([]api.Row{{Handle: 1, File: 88}}, table.Rows[1:]...)
	noRows.NextFile = 89
	open := table
	open.Rows = []api.Row{{Handle: 1, File: 78}}
	open.NextFile = 79
	return []wrongDisk{
		{"spoilt", with(50, spoilt), api.ErrSpoilt},
		{"of another kind", with(50, strip("", api.KindRaw, k, []api.Rec{{1}})), api.ErrKind},
		{"of another generation", with(50, catalogOf(k, table, 49)), api.ErrRows},
		{"without records", with(50, api.File{Sealed: true}), api.ErrRows},
		{"a row's file that is not there", with(50, catalogOf(k, noRows, 50)), api.ErrRows},
		{"a row's file that is not sealed", with(50, catalogOf(k, open, 50)), api.ErrRows},
		{"a handle twice", with(50, catalogOf(k, api.Rows{Vars: 3, Order: table.Order, Next: 9, NextFile: table.NextFile, Rows: []api.Row{table.Rows[1], table.Rows[1]}}, 50)), api.ErrRows},
		{"two variables", with(50, catalogOf(k, api.Rows{Vars: 2, Order: []int{1, 0}, Next: 1}, 50)), api.ErrFew},
		{"four variables", with(50, catalogOf(k, api.Rows{Vars: 4, Order: []int{1, 0, 3, 2}, Next: 1}, 50)), api.ErrFew},
		{"no variables", with(50, catalogOf(k, api.Rows{Next: 1}, 50)), api.ErrFew},
	}
}

// TestWrongDisks: where the newest catalog is refused, nothing is changed, and no older one takes its place. P18.1, W8.
func TestWrongDisks(t *testing.T) {
	for _, k := range []int{1, 4} {
		for _, c := range wrongDisks(t, k) {
			opensNot(t, c.what, mount(t, c.st, room), options(3, k), c.want, c.st)
			wrong := options(3, k)
			wrong.Budget--
			opensNot(t, c.what, mount(t, c.st, room), wrong, api.ErrArg, c.st)
		}
	}
}

// TestRoomForTheFirstTable: twice the catalog's blocks must be there; all files are gone also where they are not. P18.1, P18.9.
func TestRoomForTheFirstTable(t *testing.T) {
	for _, k := range []int{1, 2, 3} {
		for _, vars := range []int{0, 1, 2, 5, 40} {
			c := (vars + k) / k
			for blocks := range 2*c + 3 {
				held := litter(k)[:min(blocks, 9)]
				d := mount(t, stateOf(k, held...), blocks)
				if blocks < 2*c {
					opensNot(t, []int{k, vars, blocks}, d, options(vars, k), api.ErrFull, stateOf(k))
					continue
				}
				if _, no := engine.Open(d, options(vars, k)); no != api.OK || len(d.Names()) != 1 {
					t.Errorf("%d variables, %d blocks: %d", vars, blocks, no)
				}
			}
		}
	}
}

// openPlots are disks that are opened, with what they tell then.
func openPlots(t *testing.T, k int) map[string]*rig {
	first := newModel(k, room, options(3, k))
	return map[string]*rig{
		"no catalog":    {t, mount(t, stateOf(k, litter(k)...), room), nil, first, options(3, k)},
		"an empty disk": {t, mount(t, stateOf(k), room), nil, first, options(3, k)},
		"a catalog":     {t, mount(t, stateOf(k, append(litter(k), busy(t, k).m.state().Files...)...), room), nil, busy(t, k).m, options(3, k)},
	}
}

// named are the files of a state that a model names, its catalog too.
func named(st api.State, m *model) []api.File {
	var list []api.File
	for _, f := range st.Files {
		for _, g := range m.state().Files {
			if f.Name == g.Name {
				list = append(list, f)
			}
		}
	}
	return list
}

// TestTroublesOfOpen: a fault, a loss of power at each call. Refused with a fault, no file is gone that the newest catalog names; behind a loss of power it opens, again and again. P18.1, W7, G7.
func TestTroublesOfOpen(t *testing.T) {
	for what, p := range openPlots(t, 2) {
		st := p.d.State()
		calm := mount(t, st, room)
		if _, no := engine.Open(calm, p.o); no != api.OK {
			t.Fatalf("%s: %d", what, no)
		}
		calls := calm.Counts().Calls
		faults := 0
		for at := range calls {
			d := mount(t, st, room, api.Trouble{At: at, Kind: api.TrFault})
			e, no := engine.Open(d, p.o)
			switch {
			case d.Counts().Faults == 0: // it befell a Delete
				r := &rig{t, d, e, p.m, p.o}
				r.rests([]any{what, at})
			case e != nil || no != api.ErrFault:
				t.Fatalf("%s: a fault at %d: %d", what, at, no)
			case !sameState(stateOf(2, named(d.State(), p.m)...), stateOf(2, named(st, p.m)...)):
				t.Fatalf("%s: a fault at %d: the disk holds %v", what, at, d.Names())
			default:
				faults++
				(&rig{t, d, nil, p.m, p.o}).opens(p.m, p.m)
			}
			for _, bytes := range []int{0, 1, 50, 1 << 40} {
				offAgain(t, []any{what, at, bytes}, st, p, api.Trouble{At: at, Kind: api.TrCut, Bytes: bytes}, 1)
			}
		}
		if faults == 0 {
			t.Errorf("%s: none of %d calls is refused", what, calls)
		}
	}
}

// offAgain lets the power go off in Open, and in the Opens of what is left then.
func offAgain(t *testing.T, what any, st api.State, p *rig, cut api.Trouble, deep int) {
	t.Helper()
	d := mount(t, st, room, cut)
	if e, no := engine.Open(d, p.o); e != nil || no != api.ErrOff || d.On() {
		t.Fatalf("%v: %d", what, no)
	}
	left := d.State()
	r := &rig{t, mount(t, left, room), nil, p.m, p.o}
	if !r.opens(p.m, p.m) {
		t.Fatalf("%v: it cannot be opened", what)
	}
	if deep == 0 {
		return
	}
	for at := range r.d.Counts().Calls {
		offAgain(t, what, left, p, api.Trouble{At: at, Kind: api.TrCut, Bytes: at % 2}, deep-1)
	}
}

// TestTwoEngines: one that is opened on the disk of another tells the same. P18.1.
func TestTwoEngines(t *testing.T) {
	r := busy(t, 2)
	e, no := engine.Open(r.d, r.o)
	if no != api.OK {
		t.Fatal(no)
	}
	r.e = e
	r.rests("a second engine")
	d := bench.Dice(7)
	for range 20 {
		r.does(anyAct(&d, r.m))
	}
}
