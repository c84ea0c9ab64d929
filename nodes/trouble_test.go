package nodes_test

import (
	"slices"
	"testing"

	"strata/api"
	"strata/nodes"
	"strata/recs"
	"strata/tape"
)

// plot is a whole operation, or Look, over the tapes f and g, and what it answers where nothing befalls it.
type plot struct {
	what  string
	k     int
	tapes [][]api.Rec
	e     api.Errno
	do    func(k *tape.Desk) (any, api.Errno)
	want  any
}

// plots go through all that they may come to.
func plots() []plot {
	r := dice(20)
	const n = 9
	table := r.table(n)
	list := canon(n, table)
	bent := slices.Clone(list) // the fault is met by Check when it has come to the deepest level
	bent[0], bent[1] = rec(at(n-1, 0), F, T), rec(at(n-1, 1), T, F)
	for i := range bent[:len(bent)-1] {
		for w := 1; w < 3; w++ {
			if bent[i][w] == uint64(at(n-1, 1)) {
				bent[i][w] = uint64(at(n-1, 2))
			}
		}
	}
	check := func(k *tape.Desk) (any, api.Errno) { return nil, nodes.Check(k, "f") }
	all := func(k *tape.Desk) (any, api.Errno) {
		list, i, e := nodes.All(k, "f")
		if e != api.OK && (len(list) > 0 || i != api.Info{}) {
			return list, e
		}
		return len(list), e
	}
	eval := func(number int) func(k *tape.Desk) (any, api.Errno) {
		return func(k *tape.Desk) (any, api.Errno) {
			v, e := nodes.Eval(k, "f", bitsOf(n, number))
			return v, e
		}
	}
	equal := func(k *tape.Desk) (any, api.Errno) { v, e := nodes.Equal(k, "f", "g"); return v, e }
	wide := func(k *tape.Desk) (any, api.Errno) { v, e := nodes.Width(k, "f"); return v, e }
	look := func(k *tape.Desk) (any, api.Errno) { v, e := nodes.Look(k, "f"); return v, e }
	return []plot{
		{"Check in memory", 2, [][]api.Rec{xor()}, api.OK, check, nil},
		{"Check of a leaf", 1, [][]api.Rec{{end(2, T, 0)}}, api.OK, check, nil},
		{"Check with runs", 1, [][]api.Rec{list}, api.OK, check, nil},
		{"Check with runs, blocks of two", 2, [][]api.Rec{list}, api.OK, check, nil},
		{"Check of what is none", 1, [][]api.Rec{bent}, api.ErrShape, check, nil},
		{"All", 3, [][]api.Rec{list}, api.OK, all, len(list) - 1},
		{"Eval", 3, [][]api.Rec{list}, api.OK, eval(7), table[7]},
		{"Eval", 40, [][]api.Rec{list}, api.OK, eval(100), table[100]},
		{"Equal", 5, [][]api.Rec{list, list}, api.OK, equal, true},
		{"Equal of unlike ones", 5, [][]api.Rec{list, bent}, api.OK, equal, false},
		{"Width", 4, [][]api.Rec{list}, api.OK, wide, width(list)},
		{"Look", 4, [][]api.Rec{list}, api.OK, look, infoOf(list[len(list)-1])},
	}
}

func (p plot) state(t *testing.T) api.State {
	t.Helper()
	return holds(t, p.k, strips(p.tapes...)...)
}

// try makes the call and looks at all that is promised of it, whatever has befallen it.
func (p plot) try(b bench, troubles ...api.Trouble) api.Errno {
	b.Helper()
	v, e := p.do(b.Desk)
	n := b.Disk().Counts()
	what := []any{p.what, troubles, n, v, e}
	if e == api.OK && v != p.want {
		b.Fatalf("%v, want %v", what, p.want)
	}
	if e != api.OK && v != zeroOf(p.want) {
		b.Fatalf("%v: something is answered beside an error", what)
	}
	if e == api.ErrOff {
		b.stays(what)
		b.out(what, 0)
	} else {
		b.asBefore(what)
	}
	if (e == api.ErrOff) == b.Disk().On() {
		b.Fatalf("%v: power %v", what, b.Disk().On())
	}
	if n.Faults+n.Full > 1 || e != api.ErrOff && (n.Faults > 0) != (e == api.ErrFault) || e != api.ErrOff && (n.Full > 0) != (e == api.ErrFull) {
		b.Fatalf("%v: the answer and what the disk has refused are not the same", what)
	}
	return e
}

func zeroOf(v any) any {
	switch v.(type) {
	case int:
		return 0
	case bool:
		return false
	case api.Info:
		return api.Info{}
	}
	return nil
}

// TestTroubleAtEachCall: a fault, or the power off, at each numbered call. G7, As before, W6, W7.
func TestTroubleAtEachCall(t *testing.T) {
	for _, p := range plots() {
		was, free := p.state(t), api.LeastK*p.k
		calm := mount(t, was, free)
		if e := p.try(calm); e != p.e {
			t.Fatalf("%s: %d", p.what, e)
		}
		calls := calm.Disk().Counts().Calls
		kept := 0 // faults that befell a Delete
		for at := range calls + 1 {
			fault := api.Trouble{At: at, Kind: api.TrFault}
			if e := p.try(mount(t, was, free, fault), fault); e == p.e {
				kept++
			} else if e != api.ErrFault {
				t.Fatalf("%s: a fault at %d: %d", p.what, at, e)
			}
			for _, bytes := range []int{0, 1, 1 << 40} {
				cut := api.Trouble{At: at, Kind: api.TrCut, Bytes: bytes}
				if e := p.try(mount(t, was, free, cut), cut); (e == api.ErrOff) != (at < calls) || at == calls && e != p.e {
					t.Fatalf("%s: power off at %d of %d: %d", p.what, at, calls, e)
				}
			}
		}
		if n := calm.Disk().Counts(); kept != 1 && n.Appends == 0 || kept < 1 || kept > 1+calls/3 {
			t.Errorf("%s: %d of %d faults are not told", p.what, kept, calls)
		}
	}
}

// TestBehindAFault: from the first refusal on nothing is asked but Deletes, which no fault befalls; where the power goes off in one of them, that is told. G7.
func TestBehindAFault(t *testing.T) {
	off := 0
	for _, p := range plots() {
		was, free := p.state(t), api.LeastK*p.k
		calm := mount(t, was, free)
		p.try(calm)
		for at := 0; at < calm.Disk().Counts().Calls; at += 3 {
			fault := api.Trouble{At: at, Kind: api.TrFault}
			b := mount(t, was, free, fault)
			if e := p.try(b, fault); e != api.ErrFault {
				continue // at a Delete
			}
			last := b.Disk().Counts().Calls
			all := []api.Trouble{fault}
			for then := at + 1; then <= last; then++ {
				all = append(all, api.Trouble{At: then, Kind: api.TrFault})
				cut := api.Trouble{At: then, Kind: api.TrCut, Bytes: then % 2}
				e := p.try(mount(t, was, free, fault, cut), fault, cut)
				if want := then < last; (e == api.ErrOff) != want || !want && e != api.ErrFault {
					t.Fatalf("%s: a fault at %d of %d, power off at %d: %d", p.what, at, last, then, e)
				}
				if e == api.ErrOff {
					off++
				}
			}
			again := mount(t, was, free, all...)
			if e := p.try(again, all...); e != api.ErrFault || again.Disk().Counts() != b.Disk().Counts() {
				t.Fatalf("%s: faults from %d on: %d, %+v", p.what, at, e, again.Disk().Counts())
			}
		}
	}
	if off == 0 {
		t.Error("the power never went off in a Delete")
	}
}

// TestFullDisk: each number of free blocks from none to enough. G7.
func TestFullDisk(t *testing.T) {
	full := 0
	for _, p := range plots() {
		was, free := p.state(t), api.LeastK*p.k
		calm := mount(t, was, free)
		start := calm.Disk().Counts().Used
		p.try(calm)
		most := calm.Disk().Counts().Most - start
		for room := range most + 2 {
			b := mountSmall(t, was, free, room)
			e := p.try(b)
			want := p.e
			if room < most {
				want = api.ErrFull
				full++
			}
			if e != want {
				t.Fatalf("%s: %d blocks free, %d are enough: %d, want %d", p.what, room, most, e, want)
			}
		}
	}
	if full == 0 {
		t.Error("no disk was full")
	}
}

// badBlocks are blocks in the place of one that holds these records, and what is told of them.
func badBlocks(t *testing.T, i, size int, list []api.Rec) map[api.Errno][]byte {
	t.Helper()
	good, e := recs.Encode(api.KindNodes, i, list, size)
	if e != api.OK {
		t.Fatalf("Encode: %d", e)
	}
	kind, _ := recs.Encode(api.KindRaw, i, list, size)
	spoilt := slices.Clone(good)
	spoilt[40] ^= 4
	none := slices.Clone(good[:size-4])
	none[4] = 2
	sum := recs.Sum(none)
	none = append(none, byte(sum), byte(sum>>8), byte(sum>>16), byte(sum>>24))
	return map[api.Errno][]byte{api.ErrSpoilt: spoilt, api.ErrKind: kind, api.ErrForm: none}
}

// bad is a state in which a block of a tape is another one.
func bad(was api.State, name string, i int, block []byte) api.State {
	was.Files = slices.Clone(was.Files)
	for j, f := range was.Files {
		if f.Name == name {
			was.Files[j].Blocks = slices.Clone(f.Blocks)
			was.Files[j].Blocks[i] = block
		}
	}
	return was
}

// TestBadBlocks: each block of each tape spoilt, of another kind, or none. The call tells so, or answers right. G8, P4.17, W8.
func TestBadBlocks(t *testing.T) {
	for _, p := range plots() {
		was := p.state(t)
		told := map[api.Errno]int{}
		blocks := 0
		for x, list := range p.tapes {
			for i, piece := range slices.Collect(slices.Chunk(list, p.k)) {
				blocks++
				for want, block := range badBlocks(t, i, was.Block, piece) {
					b := mount(t, bad(was, strips(p.tapes...)[x].name, i, block), api.LeastK*p.k)
					e := p.try(b)
					if told[e]++; e != want && e != p.e {
						t.Fatalf("%s: block %d: %d, want %d", p.what, i, e, want)
					}
				}
			}
		}
		// All but Look, Eval, and Equal of unlike ones need every block; so does Check, where what it finds is not found ahead of it.
		need := p.e == api.OK && p.want != false && p.what != "Look" && p.what != "Eval"
		if need && told[api.OK] > 0 || told[api.ErrSpoilt] == 0 || told[api.ErrSpoilt] != told[api.ErrKind] || told[api.ErrKind] != told[api.ErrForm] {
			t.Errorf("%s: %d blocks: told %v", p.what, blocks, told)
		}
	}
}

// TestEachBit: each bit of each block of a small file turned. G8, W8.
func TestEachBit(t *testing.T) {
	list := xor()
	for _, k := range []int{1, 3} {
		was := holds(t, k, strips(list)...)
		for i := range blocksOf(k, len(list)) {
			for bit := range 8 * was.Block {
				b := mount(t, was, api.LeastK*k)
				b.Disk().Spoil("f", i, bit)
				_, _, e := nodes.All(b.Desk, "f")
				_, f := nodes.Width(b.Desk, "f")
				_, g := nodes.Equal(b.Desk, "f", "f")
				if check := nodes.Check(b.Desk, "f"); e != api.ErrSpoilt || f != api.ErrSpoilt || g != api.ErrSpoilt || check != api.ErrSpoilt {
					t.Fatalf("K %d, block %d, bit %d: %d, %d, %d, %d", k, i, bit, e, f, g, check)
				}
				if v, e := nodes.Eval(b.Desk, "f", []bool{false, true}); e != api.ErrSpoilt && (!v || e != api.OK) {
					t.Fatalf("K %d, block %d, bit %d: Eval: %v, %d", k, i, bit, v, e)
				}
			}
		}
	}
}

// TestCursorTroubles: what befalls a read of a cursor kills it, and it answers that again. P7.7, G6.
func TestCursorTroubles(t *testing.T) {
	list := canon(6, (*dice).table(new(dice), 6))
	for _, k := range []int{1, 2, 7} {
		was := holds(t, k, strips(list)...)
		for way, open := range ways() {
			calm := mount(t, was, k)
			c, _ := open(calm.Desk, "f")
			want, _ := calm.round(c)
			calls := calm.Disk().Counts().Calls
			for at := range calls {
				for kind, e := range map[int]api.Errno{api.TrFault: api.ErrFault, api.TrCut: api.ErrOff} {
					b := mount(t, was, k, api.Trouble{At: at, Kind: kind})
					c, f := open(b.Desk, "f")
					if at == 0 {
						if c != nil || f != e {
							t.Fatalf("way %d: %d, want %d", way, f, e)
						}
						b.asBefore(way)
						continue
					}
					b.is(way, f, api.OK)
					b.dies(c, e, want)
				}
			}
		}
	}
}

// dies makes a round of a cursor that ends with an error, and looks at what it answers then.
func (b bench) dies(c *nodes.Cursor, e api.Errno, all []api.Node) {
	b.Helper()
	got, f := b.round(c)
	if f != e || len(got) >= len(all) || !slices.Equal(got, all[:len(got)]) {
		b.Fatalf("%d nodes, then %d, want %d", len(got), f, e)
	}
	b.still("a dead cursor", func() {
		for range 3 {
			if n, some, f := c.Next(); n != (api.Node{}) || some || f != e {
				b.Fatalf("Next of a cursor that is dead of %d: %v, %v, %d", e, n, some, f)
			}
		}
	})
	b.out("a dead cursor", b.K())
	b.is("Close", c.Close(), api.OK)
	b.asBefore("a dead cursor that is closed")
	if _, _, f := c.Next(); f != api.ErrDone || c.Close() != api.ErrDone {
		b.Fatalf("Next behind Close: %d", f)
	}
}

// TestCursorBadBlocks: each block spoilt, of another kind, or none. P7.5 to P7.7, G6, G8.
func TestCursorBadBlocks(t *testing.T) {
	list := canon(5, (*dice).table(new(dice), 5))
	for _, k := range []int{1, 2, 3} {
		was := holds(t, k, strips(list)...)
		pieces := slices.Collect(slices.Chunk(list, k))
		for way, open := range ways() {
			calm := mount(t, was, k)
			c, _ := open(calm.Desk, "f")
			want, _ := calm.round(c)
			for i, piece := range pieces {
				for e, block := range badBlocks(t, i, was.Block, piece) {
					b := mount(t, bad(was, "f", i, block), k)
					c, f := open(b.Desk, "f")
					if i == len(pieces)-1 {
						if c != nil || f != e {
							t.Fatalf("way %d: %d, want %d", way, f, e)
						}
						if _, f := nodes.Look(b.Desk, "f"); f != e {
							t.Fatalf("Look: %d, want %d", f, e)
						}
						b.asBefore(way)
						continue
					}
					b.is(way, f, api.OK)
					b.dies(c, e, want)
				}
			}
		}
	}
}

// TestCursorSpoiltMeanwhile: the end's block is spoilt behind the making: Down reads it again. P7.7.
func TestCursorSpoiltMeanwhile(t *testing.T) {
	for way, open := range ways() {
		b := mount(t, holds(t, 1, strips(xor())...), 1)
		c, _ := open(b.Desk, "f")
		b.Disk().Spoil("f", 3, 300)
		got, e := b.round(c)
		if way == 0 && (len(got) != 3 || e != api.OK) || way == 1 && (len(got) != 0 || e != api.ErrSpoilt) {
			t.Errorf("way %d: %d nodes, %d", way, len(got), e)
		}
		c.Close()
	}
}

// TestShortBlocks: a tape of which a block that is not the last holds fewer records than it must. P7.6, P7.10.
func TestShortBlocks(t *testing.T) {
	list := line(6)
	was := holds(t, 2, strips(list)...)
	for i := range 3 {
		block, _ := recs.Encode(api.KindNodes, i, list[2*i:2*i+1], was.Block)
		b := mount(t, bad(was, "f", i, block), 128)
		if _, e := nodes.Look(b.Desk, "f"); e != api.OK {
			t.Errorf("Look: %d", e)
		}
		for _, r := range readings(t)[3:] {
			if r.what != "Eval" && r.what != "Equal, second" {
				b.is([]any{r.what, i}, r.do(b.Desk, "f"), api.ErrForm)
			}
		}
		for _, open := range ways() { // as its blocks tell it has as many records as it must
			c, e := open(b.Desk, "f")
			b.is("a cursor", e, api.OK)
			if _, e := b.round(c); e != api.ErrForm {
				t.Errorf("a round: %d", e)
			}
			c.Close()
		}
		b.asBefore("short blocks")
	}
}

// deed is a call of a builder.
type deed func(x *nodes.Builder) api.Errno

// deeds make a node file by a builder.
func deeds(list []api.Rec) []deed {
	var out []deed
	last := len(list) - 1
	for _, r := range list[:last] {
		out = append(out, func(x *nodes.Builder) api.Errno {
			_, e := x.Add(int(r[0]>>40), api.Ptr(r[1]), api.Ptr(r[2]))
			return e
		})
	}
	return append(out, func(x *nodes.Builder) api.Errno { return x.Done(api.Ptr(list[last][2])) })
}

// TestBuilderTroubles: a fault and a cut at each numbered call, and a disk with too little room. The call in which it befalls tells so, and so does every one behind it; Done ends a dead one, Drop deletes the file. P7.2 to P7.4, G6.
func TestBuilderTroubles(t *testing.T) {
	list := canon(5, (*dice).table(new(dice), 5))
	for _, k := range []int{1, 2, 7} {
		was := holds(t, k)
		calm := mount(t, was, k)
		calm.build("a", list)
		calls := calm.Disk().Counts().Calls
		for drop := range 2 {
			for at := 1; at < calls; at++ { // 0 is the Create: see TestBeginWhereTheDiskRefuses
				mount(t, was, k, api.Trouble{At: at, Kind: api.TrFault}).perishes(list, api.ErrFault, drop == 1)
				for _, bytes := range []int{0, 1, 40, 1 << 40} {
					mount(t, was, k, api.Trouble{At: at, Kind: api.TrCut, Bytes: bytes}).perishes(list, api.ErrOff, drop == 1)
				}
			}
			for room := range blocksOf(k, len(list)) {
				mountSmall(t, was, k, room).perishes(list, api.ErrFull, drop == 1)
			}
		}
	}
}

// perishes builds until a call is refused, and tries the dead builder.
func (b bench) perishes(list []api.Rec, want api.Errno, drop bool) {
	b.Helper()
	x := b.begin("a", int(list[len(list)-1][1]))
	e, i := api.OK, 0
	steps := deeds(list)
	for ; e == api.OK; i++ {
		if i == len(steps) {
			b.Fatalf("no call is refused, want %d", want)
		}
		b.out("a builder", b.K())
		e = steps[i](x)
	}
	b.is("the call that is refused", e, want)
	if i == len(steps) { // Done itself: it has ended all the same
		blocks, sealed, _ := b.lies("a")
		if want != api.ErrOff && (sealed || len(blocks) > blocksOf(b.K(), len(list))) {
			b.Fatalf("%d blocks, sealed %v", len(blocks), sealed)
		}
		b.behind(x)
		b.stays("Done")
		return
	}
	b.out("a dead builder", b.K())
	b.still("a dead builder", func() {
		for range 2 {
			for _, a := range []add{{0, F, T, 0, want}, {-1, F, T, 0, want}, {1, F, F, 0, want}, {99, T, F, 0, want}} {
				b.adds(x, a)
			}
		}
	})
	if drop {
		b.drops(x, want)
	} else {
		b.still("Done of a dead builder", func() { b.is("Done", x.Done(api.Mark), want) })
		if _, sealed, there := b.lies("a"); sealed || !there {
			b.Fatalf("behind Done: sealed %v, there %v", sealed, there)
		}
	}
	b.behind(x)
	b.stays("a dead builder")
}

// drops ends a builder that is dead of e by Drop.
func (b bench) drops(x *nodes.Builder, e api.Errno) {
	b.Helper()
	if e == api.ErrOff {
		b.is("Drop", x.Drop(), api.ErrOff)
		return
	}
	b.is("Drop", x.Drop(), api.OK)
	b.asBefore("Drop")
}

// TestDropTroubles: at the Delete itself. P7.4.
func TestDropTroubles(t *testing.T) {
	for _, c := range []struct {
		trouble api.Trouble
		e       api.Errno
		there   bool
	}{
		{api.Trouble{At: 2, Kind: api.TrFault}, api.OK, false},
		{api.Trouble{At: 2, Kind: api.TrCut}, api.ErrOff, true},
		{api.Trouble{At: 2, Kind: api.TrCut, Bytes: 1}, api.ErrOff, false},
	} {
		b := mount(t, holds(t, 1), 1, c.trouble)
		x := b.begin("a", 1)
		b.adds(x, add{0, F, T, 0, api.OK})
		b.is("Drop", x.Drop(), c.e)
		if _, _, there := b.lies("a"); there != c.there {
			t.Errorf("%+v: the file is there: %v", c.trouble, there)
		}
		b.behind(x)
		b.stays("Drop")
	}
}
