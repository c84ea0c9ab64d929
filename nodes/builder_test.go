package nodes_test

import (
	"math"
	"reflect"
	"slices"
	"testing"

	"strata/api"
	"strata/disk"
	"strata/nodes"
	"strata/purse"
	"strata/recs"
	"strata/tape"
)

// add is a call of Add and what it answers.
type add struct {
	level     int
	low, high api.Ptr
	p         api.Ptr
	e         api.Errno
}

// adds makes calls of Add.
func (b bench) adds(x *nodes.Builder, list ...add) {
	b.Helper()
	for _, a := range list {
		if p, e := x.Add(a.level, a.low, a.high); p != a.p || e != a.e {
			b.Fatalf("Add(%d, %d, %d): %d, %d, want %d, %d", a.level, a.low, a.high, p, e, a.p, a.e)
		}
	}
}

func (b bench) begin(name string, vars int) *nodes.Builder {
	b.Helper()
	x, e := nodes.Begin(b.Desk, name, vars)
	if x == nil || e != api.OK {
		b.Fatalf("Begin(%q, %d): %d", name, vars, e)
	}
	return x
}

// lies tells of a file of the disk's state: its blocks, and whether it is sealed.
func (b bench) lies(name string) (blocks [][]byte, sealed, there bool) {
	for _, f := range b.Disk().State().Files {
		if f.Name == name {
			return f.Blocks, f.Sealed, true
		}
	}
	return nil, false, false
}

// behind makes each call of a builder that has ended. P7.2 to P7.4.
func (b bench) behind(x *nodes.Builder) {
	b.Helper()
	b.still("a builder that has ended", func() {
		for range 2 {
			b.adds(x, add{0, F, T, 0, api.ErrDone}, add{-1, T, T, 0, api.ErrDone})
			for _, root := range []api.Ptr{F, T, 0, 5, api.Mark} {
				b.is("Done", x.Done(root), api.ErrDone)
			}
			b.is("Drop", x.Drop(), api.ErrDone)
		}
	})
	b.out("a builder that has ended", 0)
}

func TestBegin(t *testing.T) { // P7.1
	for _, vars := range []int{0, 1, 2, 65535, 65536} {
		for _, k := range []int{1, 2, 7} {
			b := mount(t, holds(t, k), k)
			x := b.begin("a", vars)
			blocks, sealed, there := b.lies("a")
			if n := b.Disk().Counts(); len(blocks) > 0 || sealed || !there || n.Calls != 1 {
				t.Errorf("Begin(%d): %d blocks, sealed %v, there %v, %+v", vars, len(blocks), sealed, there, n)
			}
			b.out("Begin", k)
			b.is("Drop", x.Drop(), api.OK)
			b.asBefore("Drop")
		}
	}
}

func TestBeginRefuses(t *testing.T) { // P7.1, G5, G6
	was := holds(t, 2, strips(and())...)
	b := mount(t, was, 1, api.Trouble{At: 0, Kind: api.TrCut})
	try := func(k *tape.Desk, name string, vars int, want api.Errno) {
		t.Helper()
		b.still("Begin", func() {
			if x, e := nodes.Begin(k, name, vars); x != nil || e != want {
				t.Errorf("Begin(%q, %d): %d, want %d", name, vars, e, want)
			}
		})
		b.asBefore("Begin")
	}
	try(nil, "A", -1, api.ErrArg)
	try(nil, "a", 2, api.ErrArg)
	for _, vars := range []int{-1, 65537, math.MaxInt, math.MinInt} {
		try(b.Desk, "A", vars, api.ErrArg)
	}
	for _, name := range []string{"", "A", "a b", "123456789-123456789-123456789-123"} {
		try(b.Desk, name, 2, api.ErrName)
	}
	for _, name := range []string{"f", "open", "raw"} {
		try(b.Desk, name, 2, api.ErrExists)
	}
	try(b.Desk, "a", 2, api.ErrBudget)
	part, _ := b.Purse().Part(1)
	part.Close()
	shut, _ := tape.NewDesk(b.Disk(), part)
	try(shut, "a", 0, api.ErrBudget)
	b.Disk().Create("cut")
	try(nil, "A", 0, api.ErrArg)
	try(b.Desk, "A", 65537, api.ErrArg)
	try(b.Desk, "A", 2, api.ErrOff)
	try(b.Desk, "f", 2, api.ErrOff)
	try(b.Desk, "a", 2, api.ErrOff)
}

func TestBeginWhereTheDiskRefuses(t *testing.T) { // P7.1, G6
	for _, c := range []struct {
		trouble api.Trouble
		e       api.Errno
		there   bool
	}{
		{api.Trouble{Kind: api.TrFault}, api.ErrFault, false},
		{api.Trouble{Kind: api.TrCut}, api.ErrOff, false},
		{api.Trouble{Kind: api.TrCut, Bytes: 1}, api.ErrOff, true},
	} {
		b := mount(t, holds(t, 3), 3, c.trouble)
		if x, e := nodes.Begin(b.Desk, "a", 2); x != nil || e != c.e {
			t.Errorf("Begin: %d, want %d", e, c.e)
		}
		if _, _, there := b.lies("a"); there != c.there {
			t.Errorf("%+v: the file is there: %v", c.trouble, there)
		}
		b.out("Begin", 0)
		b.stays("Begin")
	}
}

// TestAddRefuses: each refusal, in the order in which they are asked, and that a refusal changes nothing. P7.2.
func TestAddRefuses(t *testing.T) {
	b := mount(t, holds(t, 2), 2)
	x := b.begin("a", 4)
	bad := func(list ...add) {
		t.Helper()
		b.still("a refused Add", func() { b.adds(x, list...) })
	}
	none := api.Ptr(1<<63 + 2)
	bad(add{4, F, T, 0, api.ErrLevel}, add{-1, F, T, 0, api.ErrLevel}, add{4, T, T, 0, api.ErrLevel}, add{math.MaxInt, F, T, 0, api.ErrLevel}, add{math.MinInt, F, T, 0, api.ErrLevel})
	for _, p := range []api.Ptr{none, api.Mark, 1 << 56, 1<<63 - 1, at(4, 0), at(9, 3), at(1, 0), at(1, 5), at(0, 0), at(0, 1<<40-1), T} {
		bad(add{1, p, T, 0, api.ErrNode}, add{1, T, p, 0, api.ErrNode})
	}
	bad(add{1, F, F, 0, api.ErrNode}, add{3, at(3, 0), T, 0, api.ErrNode}, add{1, at(2, 4), at(2, 4), 0, api.ErrNode})
	b.adds(x, add{2, F, at(3, 9), at(2, 0), api.OK}) // whether a node is there is not looked at
	bad(add{3, F, T, 0, api.ErrNode}, add{3, F, F, 0, api.ErrNode}, add{4, F, T, 0, api.ErrLevel})
	bad(add{2, F, at(3, 9), 0, api.ErrNode}, add{2, F, at(3, 8), 0, api.ErrNode}, add{2, at(3, 9), T, 0, api.ErrNode}, add{2, F, F, 0, api.ErrNode})
	b.adds(x, add{2, F, at(3, 10), at(2, 1), api.OK}, add{2, F, T, at(2, 2), api.OK})
	bad(add{2, F, at(3, 11), 0, api.ErrNode}, add{2, at(3, 0), T, 0, api.ErrNode})
	b.adds(x, add{2, T, at(3, 0), at(2, 3), api.OK}, add{2, T, F, at(2, 4), api.OK})
	bad(add{2, T, F, 0, api.ErrNode}, add{2, T, T, 0, api.ErrNode})
	b.adds(x, add{0, at(1, 0), at(1, 1), 0, api.OK})                                 // a level may be left out
	bad(add{1, F, T, 0, api.ErrNode}, add{2, T, F, 0, api.ErrNode})                  // and none is gone back to
	b.adds(x, add{0, at(1, 0), at(2, 0), 1, api.OK}, add{0, at(1, 1), F, 2, api.OK}) // (a second one is added, but it may not be the last)
	bad(add{0, at(1, 1), at(3, 0), 0, api.ErrNode})
	b.is("Done", x.Done(2), api.ErrRoot)
	b.is("Drop", x.Drop(), api.OK)
	b.asBefore("Drop")
}

func TestAddOverNoLevels(t *testing.T) { // P7.2
	b := mount(t, holds(t, 2), 2)
	x := b.begin("a", 0)
	b.adds(x, add{0, F, T, 0, api.ErrLevel}, add{-1, F, T, 0, api.ErrLevel}, add{0, F, F, 0, api.ErrLevel})
	b.is("Done", x.Done(0), api.ErrRoot)
	b.is("Done", x.Done(F), api.OK)
	if got := b.records("a"); !slices.Equal(got, []api.Rec{end(0, F, 0)}) {
		t.Errorf("the records are %v", got)
	}
}

// TestDoneAsksForTheRoot: wrong ones, then once more with the right one. P7.3.
func TestDoneAsksForTheRoot(t *testing.T) {
	wrong := func(b bench, x *nodes.Builder, list ...api.Ptr) {
		b.Helper()
		b.still("Done with a wrong root", func() {
			for _, root := range append(list, 1<<63+2, api.Mark, 1<<56, 1<<63-1) {
				b.is([]any{"Done", root}, x.Done(root), api.ErrRoot)
			}
		})
		b.out("Done with a wrong root", b.K())
	}
	for _, k := range []int{1, 2, 3} {
		b := mount(t, holds(t, k), 2*k)
		x, y := b.begin("a", 2), b.begin("b", 2)
		b.is("Done", y.Done(T), api.OK)
		wrong(b, x, 0, at(1, 0), 1)
		b.adds(x, add{1, F, T, at(1, 0), api.OK})
		wrong(b, x, F, T, 0, at(1, 1))
		b.adds(x, add{1, T, F, at(1, 1), api.OK})
		wrong(b, x, F, T, 0, at(1, 0), at(1, 1))
		b.adds(x, add{0, at(1, 0), at(1, 1), 0, api.OK})
		wrong(b, x, F, T, 1, at(1, 0), at(1, 1), at(0, 1))
		b.is("Done", x.Done(0), api.OK)
		b.behind(x)
		if got := b.records("a"); !slices.Equal(got, xor()) {
			t.Errorf("K %d: the records are %v", k, got)
		}
		if _, sealed, _ := b.lies("a"); !sealed {
			t.Errorf("K %d: it is not sealed", k)
		}
		b.stays("Done")
	}
}

// TestDoneWritesATape: no node, one, and so many that they end ahead of a block's edge, at it and behind it. P7.3, P7.14, P7.16, P4.16.
func TestDoneWritesATape(t *testing.T) {
	for _, k := range []int{1, 2, 3, 5} {
		for n := range 3*k + 3 {
			b := mount(t, holds(t, k), k)
			list := line(n)
			b.build("a", list)
			blocks, sealed, _ := b.lies("a")
			var want [][]byte
			for i, piece := range slices.Collect(slices.Chunk(list, k)) {
				block, _ := recs.Encode(api.KindNodes, i, piece, 32*(k+1))
				want = append(want, block)
			}
			if !sealed || !reflect.DeepEqual(blocks, want) {
				t.Fatalf("K %d: %d nodes are %d blocks, sealed %v", k, n, len(blocks), sealed)
			}
			if calls := b.Disk().Counts().Calls; calls != 2+len(want) {
				t.Errorf("K %d: %d nodes: %d calls", k, n, calls)
			}
			b.out("Done", 0)
		}
	}
}

// line is the node file of the conjunction of n levels.
func line(n int) []api.Rec {
	list, low := []api.Rec{}, T
	for l := n - 1; l >= 0; l-- {
		list = append(list, rec(at(l, 0), F, low))
		low = at(l, 0)
	}
	return append(list, end(n, low, n))
}

func TestDrop(t *testing.T) { // P7.4
	for _, k := range []int{1, 2, 5} {
		for n := range 6 {
			b := mount(t, holds(t, k), k)
			x := b.begin("a", 9)
			for l := range n {
				b.adds(x, add{8 - l, F, T, at(8-l, 0), api.OK})
			}
			b.is("Drop", x.Drop(), api.OK)
			b.behind(x)
			b.asBefore("Drop")
		}
	}
}

// TestBuilderAgainstTheWords: calls at random, against a list of what was added. P7.2, P7.3, P7.16.
func TestBuilderAgainstTheWords(t *testing.T) {
	r := dice(3)
	ended, added := 0, 0
	for i := range 3000 {
		k, vars := 1+i%4, r.below(6)
		b := mount(t, holds(t, k), api.LeastK*k)
		x := b.begin("a", vars)
		var list []api.Rec
		for range r.below(40) {
			level := r.below(vars+2) - 1
			low, high := r.pointer(vars), r.pointer(vars)
			p, e := x.Add(level, low, high)
			want, f := nextOf(list, vars, level, low, high)
			if p != api.Ptr(want[0]) || e != f {
				t.Fatalf("behind %v over %d: Add(%d, %d, %d): %d, %d, want %v, %d", list, vars, level, low, high, p, e, want, f)
			}
			if e == api.OK {
				list = append(list, want)
				added++
			}
		}
		root := r.pointer(vars)
		if len(list) > 0 && r.below(4) > 0 {
			root = api.Ptr(list[len(list)-1][0])
		}
		list = append(list, end(vars, root, len(list)))
		e := x.Done(root)
		if (e == api.OK) != inRows(list) || e != api.OK && e != api.ErrRoot {
			t.Fatalf("Done of %v: %d", list, e)
		}
		if e == api.ErrRoot {
			b.is("Drop", x.Drop(), api.OK)
			b.asBefore("Drop")
			continue
		}
		ended++
		if got := b.records("a"); !slices.Equal(got, list) {
			t.Fatalf("the records are %v, want %v", got, list)
		}
		if (nodes.Check(b.Desk, "a") == api.OK) != wellFormed(list) {
			t.Fatalf("Check of %v", list)
		}
	}
	if ended < 500 || added < 2000 {
		t.Errorf("%d have ended, %d were added", ended, added)
	}
}

// pointer is one that a node over so many levels may have, or nearly.
func (r *dice) pointer(vars int) api.Ptr {
	switch r.below(8) {
	case 0, 1:
		return F
	case 2, 3:
		return T
	case 4:
		return []api.Ptr{T + 1, api.Mark, 1 << 56, at(vars, 0)}[r.below(4)]
	}
	return at(r.below(vars+1), r.below(2))
}

// nextOf is the record that an Add behind these puts, by the words of the chapter; and what it answers.
func nextOf(list []api.Rec, vars, level int, low, high api.Ptr) (api.Rec, api.Errno) {
	if level < 0 || level >= vars {
		return api.Rec{}, api.ErrLevel
	}
	next := rec(at(level, 0), low, high)
	if len(list) > 0 {
		last := list[len(list)-1]
		if last[0]/ids == uint64(level) {
			next[0] = last[0] + 1
		}
		if !isNode(next, uint64(vars)) || !follows(last, next) {
			return api.Rec{}, api.ErrNode
		}
	}
	if !isNode(next, uint64(vars)) {
		return api.Rec{}, api.ErrNode
	}
	return next, api.OK
}

// TestOneFormOnUnlikeDisks: the file of one function has the same records, whatever the blocks and the budget. P7.14, G9, W2.
func TestOneFormOnUnlikeDisks(t *testing.T) {
	r := dice(4)
	for n := range 9 {
		list := canon(n, r.table(n))
		for _, k := range []int{1, 2, 3, 31, 2047} {
			b := mount(t, holds(t, k), api.LeastK*k+n)
			b.build("a", list)
			if got := b.records("a"); !slices.Equal(got, list) {
				t.Fatalf("K %d: the records are %v, want %v", k, got, list)
			}
			b.is("Check", nodes.Check(b.Desk, "a"), api.OK)
		}
	}
}

// TestOneFormOfEachFunction: two files are Equal just if their functions are the same. P7.12, P7.14, W2.
func TestOneFormOfEachFunction(t *testing.T) {
	for n := range 3 {
		var lists [][]api.Rec
		for number := range 1 << (1 << n) {
			lists = append(lists, canon(n, bitsOf(1<<n, number)))
		}
		was := holds(t, 2)
		b := mount(t, was, 128)
		for i, list := range append(lists, lists...) {
			b.build(name(i), list)
		}
		for i := range 2 * len(lists) {
			for j := range 2 * len(lists) {
				if same, e := nodes.Equal(b.Desk, name(i), name(j)); same != ((i-j)%len(lists) == 0) || e != api.OK {
					t.Fatalf("Equal of the functions %d and %d over %d levels: %v, %d", i, j, n, same, e)
				}
			}
		}
	}
}

func name(i int) string { return "n" + string(rune('a'+i/26)) + string(rune('a'+i%26)) }

// TestBuildersDoNotMeet: several at one desk. G6.
func TestBuildersDoNotMeet(t *testing.T) {
	b := mount(t, holds(t, 2), 6)
	x, y, z := b.begin("a", 2), b.begin("b", 3), b.begin("c", 1)
	b.out("three builders", 6)
	if v, e := nodes.Begin(b.Desk, "d", 1); v != nil || e != api.ErrBudget {
		t.Errorf("a fourth one: %d", e)
	}
	b.adds(x, add{1, F, T, at(1, 0), api.OK})
	b.adds(y, add{2, F, T, at(2, 0), api.OK})
	b.adds(z, add{0, T, F, 0, api.OK})
	b.adds(x, add{1, T, F, at(1, 1), api.OK}, add{0, at(1, 0), at(1, 1), 0, api.OK})
	b.is("Drop", z.Drop(), api.OK)
	b.out("two builders", 4)
	b.is("Done", y.Done(at(2, 0)), api.OK)
	b.is("Done", x.Done(0), api.OK)
	b.out("none", 0)
	if !slices.Equal(b.records("a"), xor()) || !slices.Equal(b.records("b"), []api.Rec{rec(at(2, 0), F, T), end(3, at(2, 0), 1)}) {
		t.Errorf("the records are %v and %v", b.records("a"), b.records("b"))
	}
}

// TestBuilderWhereSomebodyElseWas: ErrSealed and ErrNoFile leave it as it was; Done ends all the same. P7.2, P7.3, G6.
func TestBuilderWhereSomebodyElseWas(t *testing.T) {
	d, _ := disk.New(api.Setup{Block: 64, Blocks: 9})
	p, _ := purse.New(1)
	k, _ := tape.NewDesk(d, p)
	x, _ := nodes.Begin(k, "a", 2)
	d.Delete("a")
	for range 2 {
		if q, e := x.Add(1, F, T); q != 0 || e != api.ErrNoFile {
			t.Errorf("Add where the file is gone: %d, %d", q, e)
		}
	}
	d.Create("a")
	if q, e := x.Add(1, F, T); q != at(1, 0) || e != api.OK {
		t.Errorf("Add where it is there again: %d, %d", q, e)
	}
	d.Seal("a")
	if q, e := x.Add(0, F, T); q != 0 || e != api.ErrSealed {
		t.Errorf("Add where it is sealed: %d, %d", q, e)
	}
	if e := x.Done(0); e != api.ErrRoot {
		t.Errorf("Done with a node that was not put: %d", e)
	}
	if e := x.Done(at(1, 0)); e != api.ErrSealed || p.Used() != 0 {
		t.Errorf("Done: %d, %d out", e, p.Used())
	}
	if e := x.Drop(); e != api.ErrDone {
		t.Errorf("Drop: %d", e)
	}
}
