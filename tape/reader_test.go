package tape_test

import (
	"encoding/binary"
	"slices"
	"testing"

	"strata/api"
	"strata/tape"
)

// ways are the two that a tape is read.
var ways = []struct {
	name string
	back bool
	make func(table, string, int) (*tape.Reader, api.Errno)
}{
	{"Read", false, func(b table, name string, kind int) (*tape.Reader, api.Errno) { return b.Read(name, kind) }},
	{"Back", true, func(b table, name string, kind int) (*tape.Reader, api.Errno) { return b.Back(name, kind) }},
}

func TestWhatIsWrittenIsRead(t *testing.T) { // P4.16, P4.10, P4.11
	for _, size := range []int{64, 96, 160, 1024} {
		k := size/32 - 1
		for _, n := range []int{0, 1, k - 1, k, k + 1, 2 * k, 2*k + 1, 5*k - 1, 5 * k, 5*k + 1} {
			b := lay(t, api.Setup{Block: size, Blocks: 99}, k)
			for kind := api.KindRaw; kind <= api.KindTable; kind++ {
				b.round(k, n, kind)
			}
		}
	}
}

// round writes a tape and reads it, and looks what the disk was asked for.
func (b table) round(k, n, kind int) {
	b.Helper()
	all, full := list(kind, n), (n+k-1)/k
	was := b.d.Counts()
	b.tape("a", kind, all...)
	now := b.d.Counts()
	if now.Calls-was.Calls != 1+full+1 || now.Appends-was.Appends != full || now.Used-was.Used != full {
		b.Fatalf("writing %d records of %d a block: %v, then %v", n, k, was, now)
	}
	b.same("Read", b.rest(b.read("a", kind)), all)
	b.same("Back", b.rest(b.back("a", kind)), turned(all))
	var got []api.Rec
	for r, e := range b.All("a", kind) {
		b.is("All", e, api.OK)
		got = append(got, r)
	}
	b.same("All", got, all)
	end := b.d.Counts()
	if end.Calls-now.Calls != 3*full || end.Reads-now.Reads != 3*full {
		b.Fatalf("reading %d records of %d a block three times: %v, then %v", n, k, now, end)
	}
	if r, some, e := b.Last("a", kind); e != api.OK || some != (n > 0) || some && r != all[n-1] {
		b.Fatalf("Last: %v, %v, %d", r, some, e)
	}
	b.is("Delete", b.d.Delete("a"), api.OK)
	b.out(0)
}

func TestReadRefusesInOrder(t *testing.T) { // P4.10, G5
	b := lay(t, api.Setup{Block: 128, Blocks: 9, Troubles: []api.Trouble{{At: 4, Kind: api.TrCut}}}, 2) // K is 3
	b.lie("a", block(128, 1, 0, list(1, 1)))
	b.is("Create", b.d.Create("open"), api.OK)
	try := func(name string, kind int, want api.Errno) {
		t.Helper()
		for _, w := range ways {
			b.still("a refused "+w.name, func() {
				if r, e := w.make(b, name, kind); r != nil || e != want {
					t.Fatalf("%s(%q, %d): %v, %d, want %d", w.name, name, kind, r, e, want)
				}
			})
			b.out(0)
		}
	}
	for _, kind := range []int{0, 6, -1, 255, 256 + 1, 1 << 62, -1 << 63} {
		try("a", kind, api.ErrArg)
		try("A", kind, api.ErrArg)
		try("no", kind, api.ErrArg)
	}
	try("", 1, api.ErrName)
	try("A", 5, api.ErrName)
	try("no", 1, api.ErrNoFile)
	try("open", 1, api.ErrOpen)
	try("a", 1, api.ErrBudget)
	b.off()
	try("A", 6, api.ErrArg)
	try("A", 1, api.ErrOff)
	try("a", 1, api.ErrOff)
}

func TestReadersTakeTheirRecords(t *testing.T) { // P4.10, P4.13, G6
	for _, w := range ways {
		for _, n := range []int{0, 1, 5} {
			b := lay(t, api.Setup{Block: 96, Blocks: 9}, 5) // K is 2: two readers, and one record is left
			b.tape("a", 1, list(1, n)...)
			var open []*tape.Reader
			b.still("the making of readers", func() {
				for i := range 2 {
					r, e := w.make(b, "a", 1)
					b.is(w.name, e, api.OK)
					b.out(2 * (i + 1))
					open = append(open, r)
				}
				_, e := w.make(b, "a", 1)
				b.is(w.name, e, api.ErrBudget)
				b.out(4)
			})
			for i, r := range open {
				b.still("Close", func() { b.is("Close", r.Close(), api.OK) })
				b.out(2 - 2*i)
				b.shut(r)
			}
		}
	}
}

// shut fails the test unless a reader answers as a closed one.
func (b table) shut(r *tape.Reader) {
	b.Helper()
	was := b.p.Used()
	b.still("a closed reader", func() {
		for range 2 {
			b.gives("Next", give(r.Next()), no(api.ErrDone))
			b.gives("Peek", give(r.Peek()), no(api.ErrDone))
			b.is("Close", r.Close(), api.ErrDone)
		}
	})
	b.out(was)
}

func TestNextBehindTheEnd(t *testing.T) { // P4.11, P4.12
	for _, w := range ways {
		for n := range 6 {
			b := lay(t, api.Setup{Block: 96, Blocks: 9}, 2)
			b.tape("a", 1, list(1, n)...)
			r, e := w.make(b, "a", 1)
			b.is(w.name, e, api.OK)
			for range n {
				r.Next()
			}
			b.still("a reader behind its end", func() {
				for range 5 {
					b.gives("Peek", give(r.Peek()), none)
					b.gives("Next", give(r.Next()), none)
				}
			})
			b.out(2)
			b.is("Close", r.Close(), api.OK)
			b.shut(r)
		}
	}
}

func TestPeekAndNextAskForBlocksOnce(t *testing.T) { // P4.12
	for _, w := range ways {
		b := lay(t, api.Setup{Block: 128, Blocks: 9}, 3)
		b.tape("a", 1, list(1, 7)...)
		all := list(1, 7)
		first := []bool{true, false, false, true, false, false, true}
		if w.back {
			all, first = turned(all), []bool{true, true, false, false, true, false, false}
		}
		r, _ := w.make(b, "a", 1)
		for i, want := range all {
			asked := b.calls(func() { b.gives("Peek", give(r.Peek()), one(want)) })
			if (asked == 1) != first[i] || asked > 1 {
				t.Fatalf("%s: Peek of record %d: %d calls", w.name, i, asked)
			}
			b.still("a Peek behind a Peek, a Next behind a Peek", func() {
				b.gives("Peek", give(r.Peek()), one(want))
				b.gives("Peek", give(r.Peek()), one(want))
				b.gives("Next", give(r.Next()), one(want))
			})
		}
		b.is("Close", r.Close(), api.OK)
	}
}

// TestNextThatKills: a fault, a cut, a spoilt block, a block that is none, of another kind, at another place, one that is not full. P4.11, P4.12, P4.13, G6.
func TestNextThatKills(t *testing.T) {
	l := list(1, 6)
	good := blocks(96, 1, l) // three blocks, two records each
	with := func(b []byte) [][]byte { return [][]byte{good[0], b, good[2]} }
	spoilt := slices.Clone(good[1])
	spoilt[40] ^= 16
	version := slices.Clone(good[1][:92])
	version[4] = 2
	empty := slices.Clone(good[1][:28])
	binary.LittleEndian.PutUint16(empty[6:], 0)
	for _, c := range []struct {
		name    string
		blocks  [][]byte
		trouble []api.Trouble
		want    api.Errno
	}{
		{"fault", good, []api.Trouble{{At: 6, Kind: api.TrFault}}, api.ErrFault},
		{"cut", good, []api.Trouble{{At: 6, Kind: api.TrCut, Bytes: 9}}, api.ErrOff},
		{"spoilt", with(spoilt), nil, api.ErrSpoilt},
		{"zeros", with(make([]byte, 96)), nil, api.ErrSpoilt},
		{"another version", with(sum(version)), nil, api.ErrForm},
		{"no records", with(sum(append(empty, make([]byte, 64)...))), nil, api.ErrForm},
		{"not full", with(block(96, 1, 1, list(3, 1))), nil, api.ErrForm},
		{"another kind", with(block(96, 2, 1, list(3, 2))), nil, api.ErrKind},
		{"another kind, not full", with(block(96, 2, 1, list(3, 1))), nil, api.ErrKind},
		{"another place", with(block(96, 1, 2, list(3, 2))), nil, api.ErrKind},
		{"the first block twice", with(good[0]), nil, api.ErrKind},
	} {
		for _, w := range ways {
			for _, peek := range []bool{false, true} {
				b := lay(t, api.Setup{Block: 96, Blocks: 9, Troubles: c.trouble}, 2)
				b.lie("a", c.blocks...) // calls 0 to 4; 5 is the first block that is read
				r, e := w.make(b, "a", 1)
				b.is(w.name, e, api.OK)
				first := l[:2]
				if w.back {
					first = turned(l[4:])
				}
				for _, want := range first {
					b.gives("Next", give(r.Next()), one(want))
				}
				ask := r.Next
				if peek {
					ask = r.Peek
				}
				if asked := b.calls(func() { b.gives(c.name, give(ask()), no(c.want)) }); asked != 1 {
					t.Errorf("%s: %d calls", c.name, asked)
				}
				b.still("a dead reader", func() {
					for range 2 {
						b.gives("Next of a dead one", give(r.Next()), no(c.want))
						b.gives("Peek of a dead one", give(r.Peek()), no(c.want))
					}
				})
				b.out(2)
				b.is("Close of a dead one", r.Close(), api.OK)
				b.out(0)
				b.shut(r)
			}
		}
	}
}

func TestTheLastBlockNeedNotBeFull(t *testing.T) { // P4.11
	b := lay(t, api.Setup{Block: 128, Blocks: 9}, 3)
	for n := 1; n <= 3; n++ {
		b.lie("a", block(128, 4, 0, list(1, 3)), block(128, 4, 1, list(4, n)))
		b.same("Read", b.rest(b.read("a", 4)), list(1, 3+n))
		b.same("Back", b.rest(b.back("a", 4)), turned(list(1, 3+n)))
		b.is("Delete", b.d.Delete("a"), api.OK)
	}
	b.lie("a", block(128, 4, 0, list(1, 2)), block(128, 4, 1, list(4, 3)))
	r := b.read("a", 4)
	b.gives("Next of a first block that is not full", give(r.Next()), no(api.ErrForm))
	r.Close()
	r = b.back("a", 4)
	for n := range 3 {
		b.gives("Next", give(r.Next()), one(rec(6-n)))
	}
	b.gives("Next of a first block that is not full", give(r.Next()), no(api.ErrForm))
	b.out(3)
}

func TestReadersWithoutPower(t *testing.T) { // P4.11, P4.13: what is in memory is given, and the end needs no disk
	for _, w := range ways {
		b := lay(t, api.Setup{Block: 96, Blocks: 9, Troubles: []api.Trouble{{At: 5, Kind: api.TrCut}}}, 9)
		b.tape("a", 1, list(1, 2)...) // calls 0 to 2
		r, _ := w.make(b, "a", 1)
		fresh, _ := w.make(b, "a", 1)
		r.Peek() // 3
		b.lieOff()
		first, second := rec(1), rec(2)
		if w.back {
			first, second = second, first
		}
		b.gives("Next", give(r.Next()), one(first))
		b.gives("Peek", give(r.Peek()), one(second))
		b.gives("Next", give(r.Next()), one(second))
		b.gives("Next", give(r.Next()), none)
		b.gives("Next of a block", give(fresh.Next()), no(api.ErrOff))
		b.gives("Peek", give(fresh.Peek()), no(api.ErrOff))
		b.is("Close", r.Close(), api.OK)
		b.is("Close", fresh.Close(), api.OK)
		b.out(0)
	}
}

// lieOff makes two calls, in the second of which the power goes.
func (b table) lieOff() {
	b.Helper()
	b.is("Create", b.d.Create("other"), api.OK)
	b.off()
}

// TestNextWhereSomebodyElseWas: a file that is gone, or another one now, does not kill. P4.11.
func TestNextWhereSomebodyElseWas(t *testing.T) {
	for _, w := range ways {
		b := lay(t, api.Setup{Block: 96, Blocks: 9}, 2)
		l := list(1, 5)
		b.tape("a", 1, l...)
		if w.back {
			l = turned(l)
		}
		r, _ := w.make(b, "a", 1)
		b.gives("Next", give(r.Next()), one(l[0]))
		b.is("Delete", b.d.Delete("a"), api.OK)
		at := 1
		if !w.back { // the rest of the first block is in memory; from the end that block has one record
			b.gives("Next", give(r.Next()), one(l[1]))
			at = 2
		}
		b.still("a reader of a file that is gone", func() {
			b.gives("Next", give(r.Next()), no(api.ErrNoFile))
			b.gives("Peek", give(r.Peek()), no(api.ErrNoFile))
		})
		b.is("Create", b.d.Create("a"), api.OK)
		b.gives("Next", give(r.Next()), no(api.ErrOpen))
		b.is("Seal", b.d.Seal("a"), api.OK)
		b.gives("Peek", give(r.Peek()), no(api.ErrBlock))
		b.is("Delete", b.d.Delete("a"), api.OK)
		b.out(2)
		b.lie("a", blocks(96, 1, list(1, 5))...)
		b.same("it goes on", b.rest(r), l[at:])
		b.out(0)
	}
}

// TestTheNumberOfBlocksIsThatOfTheMaking: P4.10.
func TestTheNumberOfBlocksIsThatOfTheMaking(t *testing.T) {
	b := lay(t, api.Setup{Block: 64, Blocks: 9}, 9)
	b.tape("a", 1, list(1, 2)...)
	r, back := b.read("a", 1), b.back("a", 1)
	b.is("Delete", b.d.Delete("a"), api.OK)
	b.tape("a", 1, list(1, 4)...)
	b.same("Read", b.rest(r), list(1, 2))
	b.same("Back", b.rest(back), turned(list(1, 2)))
	b.same("a new one", b.rest(b.read("a", 1)), list(1, 4))
}

// TestATurnedBitIsTold: P4.17, each bit of each block.
func TestATurnedBitIsTold(t *testing.T) {
	const size, n = 96, 5
	b := lay(t, api.Setup{Block: size, Blocks: 9}, 2)
	b.tape("a", api.KindNodes, list(1, n)...)
	all := list(1, n)
	for place := range 3 {
		for bit := range 8 * size {
			b.is("Spoil", b.d.Spoil("a", place, bit), api.OK)
			b.until(b.read("a", api.KindNodes), all[:2*place])
			b.until(b.back("a", api.KindNodes), turned(all[min(2*place+2, n):]))
			var got []api.Rec
			for r, e := range b.All("a", api.KindNodes) {
				if e != api.OK {
					b.is("All", e, api.ErrSpoilt)
					break
				}
				got = append(got, r)
			}
			b.same("All", got, all[:2*place])
			last, size := one(all[n-1]), n
			want := api.OK
			if place == 2 {
				last, size, want = no(api.ErrSpoilt), 0, api.ErrSpoilt
			}
			b.gives("Last", give(b.Last("a", api.KindNodes)), last)
			if got, e := b.Size("a", api.KindNodes); got != size || e != want {
				t.Fatalf("Size: %d, %d", got, e)
			}
			b.is("Spoil", b.d.Spoil("a", place, bit), api.OK)
			b.out(0)
		}
	}
	b.same("with all bits as they were", b.rest(b.read("a", api.KindNodes)), all)
}

// until fails the test unless a reader gives these records and then tells a spoilt block.
func (b table) until(r *tape.Reader, want []api.Rec) {
	b.Helper()
	for _, x := range want {
		b.gives("Next", give(r.Next()), one(x))
	}
	b.gives("Next of a spoilt block", give(r.Next()), no(api.ErrSpoilt))
	b.gives("Peek of a spoilt block", give(r.Peek()), no(api.ErrSpoilt))
	b.is("Close", r.Close(), api.OK)
}

// TestReadersDoNotMeet: readers of one desk and of two, at one tape and at several. P4.18.
func TestReadersDoNotMeet(t *testing.T) {
	b := lay(t, api.Setup{Block: 96, Blocks: 99}, 100)
	other := seat(t, b.d, 4)
	b.tape("a", 1, list(1, 9)...)
	b.tape("b", 2, list(50, 6)...)
	type one struct {
		from table
		r    *tape.Reader
		left []api.Rec
		pace int
	}
	readers := []one{
		{b, b.read("a", 1), list(1, 9), 1},
		{b, b.read("a", 1), list(1, 9), 2},
		{b, b.back("a", 1), turned(list(1, 9)), 1},
		{other, other.read("b", 2), list(50, 6), 3},
		{other, other.back("a", 1), turned(list(1, 9)), 2},
	}
	w := b.write("c", 3)
	for turn := range 12 {
		for i := range readers {
			x := &readers[i]
			if turn%x.pace > 0 || len(x.left) == 0 {
				continue
			}
			x.from.gives("Next", give(x.r.Next()), given{x.left[0], true, api.OK})
			x.left = x.left[1:]
		}
		b.put(w, rec(turn))
	}
	for _, x := range readers {
		x.from.same("what is left", x.from.rest(x.r), x.left)
	}
	b.is("Close", w.Close(), api.OK)
	b.same("what was written meanwhile", b.rest(b.read("c", 3)), list(0, 12))
	b.out(0)
	other.out(0)
}

func TestADeadReaderIsDeadAlone(t *testing.T) { // P4.18
	b := lay(t, api.Setup{Block: 64, Blocks: 9, Troubles: []api.Trouble{{At: 3, Kind: api.TrFault}}}, 9)
	b.tape("a", 1, rec(1)) // calls 0 to 2
	x, y := b.read("a", 1), b.read("a", 1)
	b.gives("Next", give(x.Next()), no(api.ErrFault))
	b.gives("Next", give(y.Next()), one(rec(1)))
	b.gives("Next", give(x.Next()), no(api.ErrFault))
}

func TestExamples(t *testing.T) { // the chapter's
	b := lay(t, api.Setup{Block: 96, Blocks: 9}, 5)
	w := b.write("a", api.KindRaw)
	b.put(w, list(1, 3)...)
	b.write("b", api.KindRaw)
	b.out(4)
	for _, c := range []struct {
		name string
		kind int
		want api.Errno
	}{{"c", 1, api.ErrBudget}, {"b", 9, api.ErrArg}, {"", 1, api.ErrName}, {"a", 1, api.ErrExists}} {
		_, e := b.Write(c.name, c.kind)
		b.is("Write", e, c.want)
	}
	_, e := b.Read("a", 1)
	b.is("Read", e, api.ErrOpen)
	b.is("Close", w.Close(), api.OK)
	b.done(w, 3)
	b.holds("a", true, [][]byte{block(96, 1, 0, list(1, 2)), block(96, 1, 1, list(3, 1))})
	b.gives("Last", give(b.Last("a", api.KindRaw)), one(rec(3)))
	b.gives("Last", give(b.Last("a", api.KindNodes)), no(api.ErrKind))
	b.same("Back", b.rest(b.back("a", 1)), turned(list(1, 3)))
	r := b.read("a", 1)
	asked := b.calls(func() {
		b.gives("Peek", give(r.Peek()), one(rec(1)))
		b.gives("Next", give(r.Next()), one(rec(1)))
		b.gives("Peek", give(r.Peek()), one(rec(2)))
	})
	if asked != 1 {
		t.Errorf("%d blocks were read", asked)
	}
}
