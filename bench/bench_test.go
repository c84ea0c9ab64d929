package bench_test

import (
	"slices"
	"testing"

	"strata/api"
	"strata/bench"
	"strata/nodes"
)

// TestCanon: it is well formed, and means its function. All tests of node files lean on that.
func TestCanon(t *testing.T) {
	for n := range 4 {
		for number := range 1 << (1 << n) {
			table := bench.Number(n, number)
			b := bench.Lie(t, 1, bench.Files(bench.Canon(n, table))...)
			b.Is(table, nodes.Check(b.Desk, "f"), api.OK)
			for x, want := range table {
				bits := make([]bool, n)
				for l := range bits {
					bits[l] = bench.Bit(n, x, l)
				}
				if got, e := nodes.Eval(b.Desk, "f", bits); got != want || e != api.OK {
					t.Fatalf("%v at %v: %v, %d", table, bits, got, e)
				}
			}
			for l := range n {
				if list := bench.Canon(n, table); bench.HangsOn(n, table, l) != (bench.Width(list, l) > 0) {
					t.Fatalf("%v: level %d of %v", table, l, list)
				}
			}
		}
	}
}

// deaf is a test that notes that it has failed.
type deaf struct{ failed int }

func (d *deaf) Helper()               {}
func (d *deaf) Errorf(string, ...any) { d.failed++ }
func (d *deaf) Fatalf(string, ...any) { d.failed++ }

// TestWhatItSees: a file that is there, is missing, is changed or not sealed, records that are out of the purse, a call that is numbered.
func TestWhatItSees(t *testing.T) {
	list := bench.Canon(2, bench.Number(2, 8))
	for what, c := range map[string]struct {
		do     func(b bench.Bench)
		before bool // all is as before
		made   bool // just g was made
	}{
		"nothing":           {func(b bench.Bench) {}, true, false},
		"a record is out":   {func(b bench.Bench) { b.Purse().Take(1) }, false, false},
		"an open file":      {func(b bench.Bench) { b.Disk().Create("g") }, false, false},
		"a file is missing": {func(b bench.Bench) { b.Disk().Delete("f") }, false, false},
		"a bit is turned":   {func(b bench.Bench) { b.Disk().Spoil("f", 0, 9) }, false, false},
		"a file is sealed":  {func(b bench.Bench) { b.Disk().Seal("open") }, false, false},
		"a file is made":    {func(b bench.Bench) { build(b, "g") }, false, true},
		"another is made":   {func(b bench.Bench) { build(b, "h") }, false, false},
		"two are made":      {func(b bench.Bench) { build(b, "g"); build(b, "h") }, false, false},
	} {
		d := &deaf{}
		b := bench.Lie(d, 1, bench.Files(list)...)
		c.do(b)
		b.AsBefore(what)
		if (d.failed == 0) != c.before {
			t.Errorf("%s: AsBefore has failed %d times", what, d.failed)
		}
		d.failed = 0
		b.Made(what, bench.Strip{Name: "g", Kind: api.KindNodes, List: list})
		if (d.failed == 0) != c.made {
			t.Errorf("%s: Made has failed %d times", what, d.failed)
		}
	}
	d := &deaf{}
	b := bench.Lie(d, 1, bench.Files(list)...)
	build(b, "g")
	b.Made("other records", bench.Strip{Name: "g", Kind: api.KindNodes, List: list[1:]})
	b.Still("a call", func() { b.Disk().Read("f", 0) })
	b.Is("an answer", api.OK, api.ErrArg)
	if d.failed != 3 {
		t.Errorf("it has failed %d times", d.failed)
	}
}

// TestSame: two files of the same blocks; files of other ones, one that is not sealed, one that is not there, are not the same.
func TestSame(t *testing.T) {
	d := &deaf{}
	m := bench.NewMaker(bench.Lie(d, 1, bench.Files(bench.Canon(2, bench.Number(2, 8)), bench.Canon(2, bench.Number(2, 9)))...))
	made := func(out string) api.Errno { build(m.Bench, out); return api.OK }
	f, g := m.Make(made), m.Make(made)
	m.Same("the same", f, g)
	m.Same("the same", f, "f")
	if d.failed != 0 || f == g {
		t.Errorf("it has failed %d times, of %s and %s", d.failed, f, g)
	}
	m.Same("another", f, "g")
	m.Same("not sealed", "open", "open")
	m.Same("not there", "no", "no")
	m.Make(func(out string) api.Errno { return api.ErrArg })
	if d.failed != 4 {
		t.Errorf("it has failed %d times", d.failed)
	}
}

// TestSpread: the file of a function of some levels is that of the function of as many, each at its place.
func TestSpread(t *testing.T) {
	const n = 4
	for _, places := range [][]int{{}, {2}, {0, 3}, {1, 2, 3}, {0, 1, 2, 3}} {
		m := len(places)
		for number := range min(256, 1<<(1<<m)) {
			table := bench.Number(m, number)
			wide := bench.TableOf(n, func(x int) bool {
				y := 0
				for i, l := range places {
					y = bench.With(m, y, i, bench.Bit(n, x, l))
				}
				return table[y]
			})
			if got := bench.Spread(bench.Canon(m, table), n, places); !slices.Equal(got, bench.Canon(n, wide)) {
				t.Fatalf("%v at %v: %v", table, places, got)
			}
		}
	}
}

// TestGaps: they are in rows, and no node files.
func TestGaps(t *testing.T) {
	for _, list := range bench.Gaps() {
		b := bench.Lie(t, 1, bench.Files(list)...)
		if got, _, e := nodes.All(b.Desk, "f"); len(got) != len(list)-1 || e != api.OK {
			t.Errorf("%v: %d", list, e)
		}
		b.Is(list, nodes.Check(b.Desk, "f"), api.ErrShape)
	}
}

// build makes the node file of "level 0 and level 1".
func build(b bench.Bench, name string) {
	x, _ := nodes.Begin(b.Desk, name, 2)
	p, _ := x.Add(1, api.False, api.True)
	p, _ = x.Add(0, api.False, p)
	x.Done(p)
}
