package tape_test

import (
	"reflect"
	"slices"
	"strings"
	"testing"

	"strata/api"
	"strata/tape"
)

// holds fails the test unless a file has just these blocks, and is sealed or not.
func (b table) holds(name string, sealed bool, want [][]byte) {
	b.Helper()
	for _, f := range b.d.State().Files {
		if f.Name != name {
			continue
		}
		if f.Sealed != sealed || len(f.Blocks) != len(want) || len(want) > 0 && !reflect.DeepEqual(f.Blocks, want) {
			b.Fatalf("%q: sealed %v, %d blocks\n%x, want %v, %d\n%x", name, f.Sealed, len(f.Blocks), f.Blocks, sealed, len(want), want)
		}
		return
	}
	b.Fatalf("there is no file %q", name)
}

func (b table) misses(name string) {
	b.Helper()
	for _, f := range b.d.State().Files {
		if f.Name == name {
			b.Fatalf("there is a file %q", name)
		}
	}
}

func TestWriteMakesAFile(t *testing.T) { // P4.5
	for kind := api.KindRaw; kind <= api.KindTable; kind++ {
		b := lay(t, api.Setup{Block: 96, Blocks: 9}, 2)
		asked := b.calls(func() { b.write("a", kind) })
		if asked != 1 {
			t.Errorf("Write: %d calls", asked)
		}
		b.out(2)
		b.holds("a", false, nil)
	}
}

func TestWriteRefusesInOrder(t *testing.T) { // P4.5, G5
	b := lay(t, api.Setup{Block: 128, Blocks: 9, Troubles: []api.Trouble{{At: 1, Kind: api.TrCut}}}, 2) // K is 3: K - 1 are there
	b.is("Create", b.d.Create("a"), api.OK)
	try := func(name string, kind int, want api.Errno) {
		t.Helper()
		b.still("a refused Write", func() {
			if w, e := b.Write(name, kind); w != nil || e != want {
				t.Fatalf("Write(%q, %d): %v, %d, want %d", name, kind, w, e, want)
			}
		})
		b.out(0)
	}
	for _, kind := range []int{0, 6, -1, 255, 256 + 1, 1 << 62, -1 << 63} {
		try("b", kind, api.ErrArg)
		try("a", kind, api.ErrArg)
		try("A", kind, api.ErrArg)
	}
	for _, name := range []string{"", "A", "a b", "a_", "\xff", strings.Repeat("a", api.MaxName+1)} {
		try(name, 1, api.ErrName)
	}
	try("a", 5, api.ErrExists)
	try("b", 5, api.ErrBudget)
	b.off()
	try("A", 6, api.ErrArg)
	try("A", 5, api.ErrOff)
	try("b", 1, api.ErrOff)
}

func TestWriteAsksForOneBlocksRecords(t *testing.T) { // P4.5, G6
	for records := range 9 {
		b := lay(t, api.Setup{Block: 96, Blocks: 9}, records) // K is 2
		made := 0
		for _, name := range []string{"a", "b", "c", "d", "e"} {
			w, e := b.Write(name, 1)
			if want := made < records/2; want != (w != nil) || want != (e == api.OK) || !want && e != api.ErrBudget {
				t.Fatalf("%d records, writer %d: %d", records, made, e)
			}
			if e == api.OK {
				made++
			}
			b.out(2 * made)
		}
		if len(b.d.Names()) != made {
			t.Errorf("%d records: %v", records, b.d.Names())
		}
	}
}

func TestWriteAtAClosedPart(t *testing.T) { // G6: nothing is free there
	b := lay(t, api.Setup{Block: 64, Blocks: 9}, 9)
	b.tape("a", 1)
	part, _ := b.p.Part(5)
	k, e := tape.NewDesk(b.d, part)
	b.is("NewDesk", e, api.OK)
	b.is("Close", part.Close(), api.OK)
	if w, e := k.Write("b", 1); w != nil || e != api.ErrBudget {
		t.Errorf("Write: %d", e)
	}
	if r, e := k.Read("a", 1); r != nil || e != api.ErrBudget {
		t.Errorf("Read: %d", e)
	}
	if _, _, e := k.Last("a", 1); e != api.ErrBudget {
		t.Errorf("Last: %d", e)
	}
	b.misses("b")
	b.out(0)
}

func TestWriteWhereCreateIsRefused(t *testing.T) { // P4.5
	for _, c := range []struct {
		trouble api.Trouble
		want    api.Errno
		there   bool
	}{
		{api.Trouble{Kind: api.TrFault}, api.ErrFault, false},
		{api.Trouble{Kind: api.TrCut}, api.ErrOff, false},
		{api.Trouble{Kind: api.TrCut, Bytes: 1}, api.ErrOff, true},
	} {
		b := lay(t, api.Setup{Block: 64, Blocks: 9, Troubles: []api.Trouble{c.trouble}}, 1)
		if w, e := b.Write("a", 1); w != nil || e != c.want {
			t.Errorf("Write: %v, %d, want %d", w, e, c.want)
		}
		if b.out(0); b.p.Peak() != 1 || b.d.Counts().Calls != 1 || (len(b.d.State().Files) == 1) != c.there {
			t.Errorf("peak %d, %v, %v", b.p.Peak(), b.d.Counts(), b.d.State())
		}
	}
}

func TestPutKeepsAndAppends(t *testing.T) { // P4.6, P4.7
	for _, size := range []int{64, 96, 160} {
		k := size/32 - 1
		b := lay(t, api.Setup{Block: size, Blocks: 99}, k)
		w := b.write("a", api.KindTable)
		for n := 1; n <= 4*k+1; n++ {
			want := 0
			if n%k == 0 {
				want = 1
			}
			if asked := b.calls(func() { b.put(w, rec(n)) }); asked != want || w.Count() != n {
				t.Fatalf("Put %d: %d calls, count %d", n, asked, w.Count())
			}
			b.holds("a", false, blocks(size, api.KindTable, list(1, n/k*k)))
			b.out(k)
		}
	}
}

func TestPutKeepsAnyRecord(t *testing.T) { // P4.6, P4.16
	b := lay(t, api.Setup{Block: 96, Blocks: 99}, 9)
	odd := []api.Rec{{}, {api.Mark, api.Mark, api.Mark, api.Mark}, {0, 0, 0, 1}, {1 << 63}, {}, {}}
	b.tape("a", 1, odd...)
	b.same("what is read", b.rest(b.read("a", 1)), odd)
}

// TestPutThatKills: of a fault, a full disk, a power that is off. P4.6 to P4.9, G6.
func TestPutThatKills(t *testing.T) {
	for _, c := range []struct {
		name    string
		trouble []api.Trouble
		room    int
		want    api.Errno
		left    [][]byte // behind the first block
	}{
		{"fault", []api.Trouble{{At: 2, Kind: api.TrFault}}, 9, api.ErrFault, nil},
		{"full", nil, 1, api.ErrFull, nil},
		{"cut", []api.Trouble{{At: 2, Kind: api.TrCut}}, 9, api.ErrOff, nil},
		{"cut within", []api.Trouble{{At: 2, Kind: api.TrCut, Bytes: 40}}, 9, api.ErrOff, [][]byte{append(slices.Clone(block(96, 1, 1, list(3, 2))[:40]), make([]byte, 56)...)}},
	} {
		for _, end := range []string{"Close", "Drop"} {
			b := lay(t, api.Setup{Block: 96, Blocks: c.room, Troubles: c.trouble}, 4)
			w := b.write("a", 1)
			b.put(w, list(1, 3)...)
			b.is(c.name, w.Put(rec(4)), c.want)
			left := append(blocks(96, 1, list(1, 2)), c.left...)
			b.holds("a", false, left)
			b.still("a dead writer", func() {
				for range 3 {
					b.is("Put of a dead one", w.Put(rec(5)), c.want)
				}
			})
			if b.out(2); w.Count() != 3 {
				t.Errorf("%s: Count is %d", c.name, w.Count())
			}
			if end == "Close" {
				b.still("Close of a dead one", func() { b.is("Close", w.Close(), c.want) })
				b.holds("a", false, left)
			} else if c.want == api.ErrOff {
				b.is("Drop", w.Drop(), api.ErrOff)
			} else {
				b.is("Drop", w.Drop(), api.OK)
				b.misses("a")
			}
			b.done(w, 3)
			b.out(0)
		}
	}
}

// done fails the test unless a writer answers as a closed one.
func (b table) done(w *tape.Writer, count int) {
	b.Helper()
	b.still("a closed writer", func() {
		for range 2 {
			b.is("Put", w.Put(rec(9)), api.ErrDone)
			b.is("Close", w.Close(), api.ErrDone)
			b.is("Drop", w.Drop(), api.ErrDone)
		}
	})
	if w.Count() != count {
		b.Fatalf("Count is %d, want %d", w.Count(), count)
	}
}

func TestPutWithoutPowerIsKept(t *testing.T) { // P4.6: the disk is not asked ahead of the Kth record
	b := lay(t, api.Setup{Block: 128, Blocks: 9, Troubles: []api.Trouble{{At: 1, Kind: api.TrCut}}}, 4)
	w := b.write("a", 1)
	b.off()
	b.put(w, list(1, 2)...)
	b.is("the Kth Put", w.Put(rec(3)), api.ErrOff)
	b.is("Put", w.Put(rec(4)), api.ErrOff)
	b.is("Close", w.Close(), api.ErrOff)
	b.done(w, 2)
	b.out(0)
}

func TestCloseWithoutPower(t *testing.T) { // P4.8
	for n := range 3 {
		b := lay(t, api.Setup{Block: 128, Blocks: 9, Troubles: []api.Trouble{{At: 1, Kind: api.TrCut}}}, 4)
		w := b.write("a", 1)
		b.put(w, list(1, n)...)
		b.off()
		b.is("Close", w.Close(), api.ErrOff)
		b.done(w, n)
		b.out(0)
	}
}

// TestPutWhereSomebodyElseWas: ErrSealed and ErrNoFile leave the writer as it was. P4.6.
func TestPutWhereSomebodyElseWas(t *testing.T) {
	for _, size := range []int{64, 96} {
		k := size/32 - 1
		b := lay(t, api.Setup{Block: size, Blocks: 9}, k)
		w := b.write("a", 1)
		b.put(w, list(1, 2*k-1)...)
		b.is("Seal", b.d.Seal("a"), api.OK)
		for range 3 {
			b.is("Put", w.Put(rec(7)), api.ErrSealed)
		}
		b.is("Delete", b.d.Delete("a"), api.OK)
		b.is("Put", w.Put(rec(8)), api.ErrNoFile)
		if b.out(k); w.Count() != 2*k-1 {
			t.Errorf("Count is %d", w.Count())
		}
		b.is("Create", b.d.Create("a"), api.OK)
		b.put(w, rec(2*k)) // it goes on as if nothing had been, and so do its places
		b.put(w, rec(2*k+1))
		b.is("Close", w.Close(), api.OK)
		b.holds("a", true, blocks(size, 1, list(1, 2*k+1))[1:])
		b.gives("Next of a tape whose first block is gone", give(b.read("a", 1).Next()), no(api.ErrKind))
	}
}

func TestCloseAppendsAndSeals(t *testing.T) { // P4.8
	for _, size := range []int{64, 96, 160, api.MaxBlock} {
		k := size/32 - 1
		for _, n := range []int{0, 1, k - 1, k, k + 1, 2*k - 1, 2 * k, 3*k + 1} {
			b := lay(t, api.Setup{Block: size, Blocks: 99}, k+3)
			w := b.write("a", api.KindInner)
			b.put(w, list(1, n)...)
			want := 1
			if n%k > 0 {
				want = 2
			}
			if asked := b.calls(func() { b.is("Close", w.Close(), api.OK) }); asked != want {
				t.Errorf("Close behind %d records of %d a block: %d calls", n, k, asked)
			}
			b.holds("a", true, blocks(size, api.KindInner, list(1, n)))
			b.out(0)
			b.done(w, n)
		}
	}
}

// TestCloseThatIsRefused: by a fault, by a full disk, by a cut, at the Append and at the Seal. P4.8.
func TestCloseThatIsRefused(t *testing.T) {
	for _, c := range []struct {
		name    string
		n       int // records
		trouble []api.Trouble
		room    int
		want    api.Errno
		left    int // records on the disk
		sealed  bool
	}{
		{"fault at the Append", 3, []api.Trouble{{At: 2, Kind: api.TrFault}}, 9, api.ErrFault, 2, false},
		{"fault at the Seal", 3, []api.Trouble{{At: 3, Kind: api.TrFault}}, 9, api.ErrFault, 3, false},
		{"fault at the Seal alone", 2, []api.Trouble{{At: 2, Kind: api.TrFault}}, 9, api.ErrFault, 2, false},
		{"fault at the Seal of nothing", 0, []api.Trouble{{At: 1, Kind: api.TrFault}}, 9, api.ErrFault, 0, false},
		{"full", 3, nil, 1, api.ErrFull, 2, false},
		{"cut at the Append", 3, []api.Trouble{{At: 2, Kind: api.TrCut}}, 9, api.ErrOff, 2, false},
		{"cut behind the Append", 3, []api.Trouble{{At: 2, Kind: api.TrCut, Bytes: 96}}, 9, api.ErrOff, 3, false},
		{"cut at the Seal", 3, []api.Trouble{{At: 3, Kind: api.TrCut}}, 9, api.ErrOff, 3, false},
		{"cut behind the Seal", 3, []api.Trouble{{At: 3, Kind: api.TrCut, Bytes: 1}}, 9, api.ErrOff, 3, true},
	} {
		b := lay(t, api.Setup{Block: 96, Blocks: c.room, Troubles: c.trouble}, 2)
		w := b.write("a", 1)
		b.put(w, list(1, c.n)...)
		b.is(c.name, w.Close(), c.want)
		b.holds("a", c.sealed, blocks(96, 1, list(1, c.left)))
		b.done(w, c.n)
		b.out(0)
	}
}

func TestCloseWhereSomebodyElseWas(t *testing.T) { // P4.8
	for n := range 4 {
		for _, c := range []struct {
			act  func(table) api.Errno
			want api.Errno
		}{
			{func(b table) api.Errno { return b.d.Seal("a") }, api.ErrSealed},
			{func(b table) api.Errno { return b.d.Delete("a") }, api.ErrNoFile},
		} {
			b := lay(t, api.Setup{Block: 96, Blocks: 9}, 2)
			w := b.write("a", 1)
			b.put(w, list(1, n)...)
			b.is("somebody", c.act(b), api.OK)
			b.still("Close", func() { b.is("Close", w.Close(), c.want) })
			b.done(w, n)
			b.out(0)
		}
	}
}

func TestDrop(t *testing.T) { // P4.9
	for n := range 5 {
		b := lay(t, api.Setup{Block: 96, Blocks: 9}, 2)
		w := b.write("a", 1)
		b.put(w, list(1, n)...)
		if asked := b.calls(func() { b.is("Drop", w.Drop(), api.OK) }); asked != 1 {
			t.Errorf("Drop: %d calls", asked)
		}
		b.misses("a")
		b.done(w, n)
		b.out(0)
	}
}

func TestDropThatIsRefused(t *testing.T) { // P4.9
	b := lay(t, api.Setup{Block: 96, Blocks: 9}, 2)
	w := b.write("a", 1)
	b.is("Delete", b.d.Delete("a"), api.OK)
	b.is("Drop of a file that is gone", w.Drop(), api.ErrNoFile)
	b.done(w, 0)
	b.out(0)
	w = b.write("a", 1)
	b.is("Seal", b.d.Seal("a"), api.OK)
	b.is("Drop of a file that somebody has sealed", w.Drop(), api.OK)
	b.misses("a")
	b.out(0)
	for bytes := range 2 {
		b = lay(t, api.Setup{Block: 96, Blocks: 9, Troubles: []api.Trouble{{At: 1, Kind: api.TrCut, Bytes: bytes}}}, 2)
		w = b.write("a", 1)
		b.is("Drop that is cut", w.Drop(), api.ErrOff)
		if n := len(b.d.State().Files); n != 1-bytes {
			t.Errorf("a cut of %d bytes: %d files", bytes, n)
		}
		b.done(w, 0)
		b.out(0)
	}
	b = lay(t, api.Setup{Block: 96, Blocks: 9, Troubles: []api.Trouble{{At: 1, Kind: api.TrFault}}}, 2)
	w = b.write("a", 1)
	b.is("Drop that faults", w.Drop(), api.OK)
	b.misses("a")
	b.out(0)
}

// TestWritersDoNotMeet: writers of one desk and of two, on one disk, some with one purse. P4.18.
func TestWritersDoNotMeet(t *testing.T) {
	b := lay(t, api.Setup{Block: 96, Blocks: 999}, 100)
	other := seat(t, b.d, 4)
	third, e := tape.NewDesk(b.d, b.p)
	b.is("NewDesk", e, api.OK)
	c := table{t, third, b.d, b.p}
	names := []string{"a", "b", "c", "d", "e"}
	desks := []table{b, b, other, c, other}
	var writers []*tape.Writer
	for i, name := range names {
		writers = append(writers, desks[i].write(name, i+1))
	}
	for n := range 20 {
		for i, w := range writers {
			if n < 4*i {
				desks[i].put(w, rec(100*i+n))
			}
		}
	}
	b.is("Drop", writers[3].Drop(), api.OK)
	for i, w := range writers {
		if i != 3 {
			b.is("Close", w.Close(), api.OK)
			b.same(names[i], c.rest(c.read(names[i], i+1)), list(100*i, 4*i))
		}
	}
	b.misses("d")
	b.out(0)
	other.out(0)
}

// TestADeadOneIsDeadAlone: P4.18.
func TestADeadOneIsDeadAlone(t *testing.T) {
	b := lay(t, api.Setup{Block: 64, Blocks: 9, Troubles: []api.Trouble{{At: 2, Kind: api.TrFault}}}, 9)
	v, w := b.write("v", 1), b.write("w", 1)
	b.is("Put", v.Put(rec(1)), api.ErrFault)
	b.put(w, rec(1))
	b.is("Close", w.Close(), api.OK)
	b.is("Close", v.Close(), api.ErrFault)
	b.out(0)
}

func TestPurseByHand(t *testing.T) { // G6: what is taken by hand and by parts is not given back by a tape
	b := lay(t, api.Setup{Block: 64, Blocks: 9}, 4)
	b.is("Take", b.p.Take(1), api.OK)
	part, e := b.p.Part(2)
	b.is("Part", e, api.OK)
	w := b.write("a", 1)
	b.out(4)
	if _, e := b.Write("b", 1); e != api.ErrBudget {
		t.Errorf("Write: %d", e)
	}
	b.is("Close", w.Close(), api.OK)
	b.out(3)
	k, e := tape.NewDesk(b.d, part)
	b.is("NewDesk", e, api.OK)
	in := table{t, k, b.d, part}
	r := in.read("a", 1)
	if in.out(1); part.Close() != api.ErrGive {
		t.Errorf("the part closes though a reader holds of it")
	}
	b.is("Close", r.Close(), api.OK)
	b.is("Close", part.Close(), api.OK)
	b.out(1)
}
