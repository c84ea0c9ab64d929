package nodes_test

import (
	"slices"
	"testing"

	"strata/api"
	"strata/disk"
	"strata/nodes"
	"strata/purse"
	"strata/tape"
)

// blocksOf is how many blocks a tape of so many records has.
func blocksOf(k, n int) int { return (n + k - 1) / k }

// TestReads: Eval, Equal and Width read no more than each block once, and one more for each file; also where they answer early or refuse. (What follows P7.13.)
func TestReads(t *testing.T) {
	r := dice(10)
	for _, k := range []int{1, 2, 3, 7, 40} {
		for n := range 8 {
			one, two := canon(n, r.table(n)), canon(n, r.table(n))
			bent := slices.Clone(one)
			bent[r.below(len(bent))][3]++
			for _, pair := range [][2][]api.Rec{{one, one}, {one, two}, {one, bent}, {bent, bent}} {
				b := lie(t, k, pair[0], pair[1])
				f, g := blocksOf(k, len(pair[0])), blocksOf(k, len(pair[1]))
				reads := func(what string, most int, do func()) {
					t.Helper()
					was := b.Disk().Counts()
					do()
					now := b.Disk().Counts()
					if now.Reads-was.Reads > most || now.Calls-was.Calls != now.Reads-was.Reads {
						t.Errorf("K %d, %d records: %s makes %d reads of %d calls, want %d", k, len(pair[0]), what, now.Reads-was.Reads, now.Calls-was.Calls, most)
					}
				}
				for range 4 {
					bits := bitsOf(n, r.below(1<<n))
					reads("Eval", f+1, func() { nodes.Eval(b.Desk, "f", bits) })
				}
				reads("Width", g+1, func() { nodes.Width(b.Desk, "g") })
				reads("Equal", f+g+2, func() { nodes.Equal(b.Desk, "f", "g") })
				reads("Equal", f+f+2, func() { nodes.Equal(b.Desk, "f", "f") })
				reads("Look", 1, func() { nodes.Look(b.Desk, "f") })
				reads("All", f+1, func() { nodes.All(b.Desk, "f") })
			}
		}
	}
}

// TestPeaks: a builder, a cursor and Look hold K records, no more and no less; a whole operation does with 64 K. G6, G7, G10.
func TestPeaks(t *testing.T) {
	list := canon(7, (*dice).table(new(dice), 7))
	for _, k := range []int{1, 2, 5, 31, 300} {
		was := holds(t, k, strips(list, list)...)
		for _, r := range readings(t) {
			if r.what == "Eval" {
				continue // is over two levels there
			}
			b := mount(t, was, r.need*k)
			b.is(r.what, r.do(b.Desk, "f"), api.OK)
			b.asBefore(r.what)
			if peak := b.Purse().Peak() - b.hand; r.need == 1 && peak != k || peak > r.need*k {
				t.Errorf("K %d: %s: peak %d", k, r.what, peak)
			}
		}
		b := mount(t, was, api.LeastK*k)
		if _, e := nodes.Eval(b.Desk, "f", make([]bool, 7)); e != api.OK {
			t.Errorf("K %d: Eval: %d", k, e)
		}
		if _, e := nodes.Equal(b.Desk, "f", "g"); e != api.OK {
			t.Errorf("K %d: Equal: %d", k, e)
		}
		b.asBefore("Eval and Equal")
		b = mount(t, was, k)
		b.build("a", list)
		if b.out("Done", 0); b.Purse().Peak() != b.hand+k {
			t.Errorf("K %d: a builder: peak %d", k, b.Purse().Peak())
		}
	}
}

// TestCheckHoldsNoList: what waits while Check goes down is more than the purse has, so the rest must be on the disk meanwhile; and nothing of it stays there. P7.10, G10.
func TestCheckHoldsNoList(t *testing.T) {
	const n = 14
	r := dice(11)
	list := canon(n, r.table(n))
	if w := width(list); w < 900 {
		t.Fatalf("the widest level has %d nodes", w)
	}
	for _, k := range []int{1, 2, 4} {
		b := lie(t, k, list)
		b.is("Check", nodes.Check(b.Desk, "f"), api.OK)
		b.asBefore("Check")
		was := 0
		for _, f := range b.was.Files {
			was += len(f.Blocks)
		}
		// When the first node of the widest level is met, all of that level wait.
		if most := b.Disk().Counts().Most - was; most*k < width(list)-api.LeastK*k {
			t.Errorf("K %d: at most %d blocks are used, where %d nodes wait", k, most, width(list))
		}
	}
	b := mount(t, holds(t, 2, strips(list)...), 1<<20)
	b.is("Check", nodes.Check(b.Desk, "f"), api.OK)
	if n := b.Disk().Counts(); n.Calls != n.Reads || n.Reads != 1+blocksOf(2, len(list)) {
		t.Errorf("with room in the purse for all: %+v", n)
	}
}

// TestCheckOfWideFaults: one fault in a wide file, at each of some places, is found whatever the budget. P7.10, G9.
func TestCheckOfWideFaults(t *testing.T) {
	const n = 11
	r := dice(12)
	list := canon(n, r.table(n))
	last := len(list) - 1
	for i := range 60 {
		bent := slices.Clone(list)
		j := r.below(last)
		switch i % 3 {
		case 0: // one that nothing points to, at the end of a level
			l := uint64(r.below(n-2)) + 1
			at, _ := slices.BinarySearchFunc(bent[:last], l, func(a api.Rec, l uint64) int { return int(l) - 1 - int(a[0]/ids) })
			bent = slices.Insert(bent, at, api.Rec{bent[at-1][0] + 1, uint64(T), uint64(F), 0})
			bent[last+1][3]++
		case 1: // one that is not there
			bent[j][2] = uint64(n-1)*ids + 5
		case 2: // another one that is there
			bent[j][1] = uint64(n-1)*ids + uint64(r.below(2))
		}
		want := api.ErrShape
		if wellFormed(bent) {
			want = api.OK
		}
		for _, k := range []int{1, 3} {
			for _, free := range []int{64 * k, 64*k + 7, 1000 * k} {
				b := mount(t, holds(t, k, strips(bent)...), free)
				b.is([]any{"Check", i, k, free}, nodes.Check(b.Desk, "f"), want)
				b.asBefore("Check")
			}
		}
	}
}

// TestAllLevels: a file over as many levels as there may be, a node at each. MaxVars.
func TestAllLevels(t *testing.T) {
	const n = api.MaxVars
	d, _ := disk.New(api.Setup{Block: 128, Blocks: 1 << 20})
	p, _ := purse.New(192)
	k, _ := tape.NewDesk(d, p)
	b := bench{t, k, d.State(), 0}
	list := line(n)
	b.build("f", list)
	b.is("Check", nodes.Check(k, "f"), api.OK)
	if got, i, e := nodes.All(k, "f"); e != api.OK || i != (api.Info{Vars: n, Root: 0, Nodes: n}) || !slices.Equal(got, nodesOf(list)) {
		t.Errorf("All: %d nodes, %+v, %d", len(got), i, e)
	}
	c, _ := nodes.Down(k, "f")
	got, e := b.round(c)
	if c.Close(); len(got) != n || got[n-1] != (api.Node{Self: at(n-1, 0), Low: F, High: T}) || e != api.OK {
		t.Errorf("Down: %d nodes, %d", len(got), e)
	}
	bits := make([]bool, n)
	for l := range bits {
		bits[l] = true
	}
	for _, l := range []int{-1, 0, 1, 40000, n - 1} {
		if l >= 0 {
			bits[l] = false
		}
		if v, e := nodes.Eval(k, "f", bits); v != (l < 0) || e != api.OK {
			t.Errorf("Eval with level %d false: %v, %d", l, v, e)
		}
		if l >= 0 {
			bits[l] = true
		}
	}
	if w, e := nodes.Width(k, "f"); w != 1 || e != api.OK {
		t.Errorf("Width: %d, %d", w, e)
	}
	if same, e := nodes.Equal(k, "f", "f"); !same || e != api.OK {
		t.Errorf("Equal: %v, %d", same, e)
	}
	if p.Used() != 0 || len(d.Names()) != 1 {
		t.Errorf("%d are out, files %v", p.Used(), d.Names())
	}
}

// TestManyNodesOfALevel: tens of thousands, in rows, though nothing points to most of them. P7.2, P7.7, P7.13.
func TestManyNodesOfALevel(t *testing.T) {
	const wide = 30000
	list := []api.Rec{}
	for i := range wide {
		list = append(list, rec(at(1, i), at(2, i/3), at(3, i%3)))
	}
	list = append(list, rec(0, at(1, 0), at(1, wide-1)), end(4, 0, wide+1))
	for _, k := range []int{1, 7} {
		b := mount(t, holds(t, k), 64*k)
		b.build("f", list)
		if w, e := nodes.Width(b.Desk, "f"); w != wide || e != api.OK {
			t.Errorf("Width: %d, %d", w, e)
		}
		for _, open := range ways() {
			c, _ := open(b.Desk, "f")
			if got, e := b.round(c); len(got) != wide+1 || e != api.OK {
				t.Errorf("a round: %d nodes, %d", len(got), e)
			}
			c.Close()
		}
		b.is("Check", nodes.Check(b.Desk, "f"), api.ErrShape)
		b.stays("all")
		b.out("all", 0)
	}
}

// TestAnswersHangOnTheFileAlone: not on the blocks, the budget, or what else the disk holds. G2, G9.
func TestAnswersHangOnTheFileAlone(t *testing.T) {
	r := dice(13)
	const n = 8
	table := r.table(n)
	list := canon(n, table)
	for _, k := range []int{1, 2, 5, 30, 500} {
		for _, more := range []int{0, 1, 1000} {
			b := mount(t, holds(t, k, strips(list, list)...), 64*k+more)
			for range 2 {
				w, e := nodes.Width(b.Desk, "f")
				v, g := nodes.Eval(b.Desk, "g", bitsOf(n, 77))
				same, h := nodes.Equal(b.Desk, "f", "g")
				got, i, j := nodes.All(b.Desk, "f")
				if w != width(list) || v != table[77] || !same || e+g+h+j != api.OK || !slices.Equal(got, nodesOf(list)) || i != infoOf(list[len(list)-1]) {
					t.Errorf("K %d, %d more: %d, %v, %v, %d %d %d %d", k, more, w, v, same, e, g, h, j)
				}
				b.is("Check", nodes.Check(b.Desk, "f"), api.OK)
			}
			b.asBefore("all")
		}
	}
}
