package tape_test

import (
	"slices"
	"strconv"
	"strings"
	"testing"

	"strata/api"
	"strata/disk"
	"strata/purse"
	"strata/tape"
)

func TestNewDesk(t *testing.T) { // P4.1
	for size := api.MinBlock; size <= api.MaxBlock; size += 32 {
		d, _ := disk.New(api.Setup{Block: size, Blocks: 1})
		p, _ := purse.New(0)
		k, e := tape.NewDesk(d, p)
		if e != api.OK || k.Disk() != d || k.Purse() != p || k.K() != size/32-1 {
			t.Fatalf("a desk over blocks of %d: K %d, %d", size, k.K(), e)
		}
	}
}

func TestNewDeskRefuses(t *testing.T) { // P4.1, G1
	d, _ := disk.New(api.Setup{Block: 64, Blocks: 1})
	p, _ := purse.New(1)
	for _, c := range []struct {
		d *disk.Disk
		p *purse.Purse
	}{{nil, nil}, {d, nil}, {nil, p}, {&disk.Disk{}, p}} {
		if k, e := tape.NewDesk(c.d, c.p); k != nil || e != api.ErrArg {
			t.Errorf("NewDesk(%v, %v): %v, %d", c.d, c.p, k, e)
		}
	}
}

func TestNewDeskWithoutPower(t *testing.T) { // P4.1
	b := lay(t, api.Setup{Block: 64, Blocks: 1, Troubles: []api.Trouble{{At: 0, Kind: api.TrCut}}}, 3)
	b.off()
	b.still("NewDesk", func() {
		if k, e := tape.NewDesk(b.d, b.p); e != api.OK || k.K() != 1 {
			t.Errorf("NewDesk: %d", e)
		}
	})
	b.out(0)
}

func TestTempPassesOverFiles(t *testing.T) { // P4.2
	b := lay(t, api.Setup{Block: 64, Blocks: 9}, 9)
	for _, name := range []string{"tmp-2", "tmp-4", "tmp-5", "tmp-07", "tmp-", "tmp-0"} {
		b.is("Create", b.d.Create(name), api.OK)
	}
	b.is("Seal", b.d.Seal("tmp-4"), api.OK)
	b.still("Temp", func() {
		for _, want := range []string{"tmp-1", "tmp-3", "tmp-6", "tmp-7", "tmp-8"} {
			if got := b.Temp(); got != want {
				t.Errorf("Temp() = %q, want %q", got, want)
			}
		}
	})
	b.is("Delete", b.d.Delete("tmp-5"), api.OK)
	b.is("Create", b.d.Create("tmp-9"), api.OK)
	if got := b.Temp(); got != "tmp-10" {
		t.Errorf("Temp() = %q: a count never goes back, and tmp-9 is there", got)
	}
}

func TestTempGivesNoNameTwice(t *testing.T) { // P4.2, P4.18
	b := lay(t, api.Setup{Block: 64, Blocks: 9}, 9)
	other := seat(t, b.d, 9)
	for i := range 2000 {
		want := "tmp-" + strconv.Itoa(i+1)
		if got := b.Temp(); got != want {
			t.Fatalf("Temp() = %q, want %q", got, want)
		}
	}
	if got := other.Temp(); got != "tmp-1" {
		t.Errorf("another desk counts on its own: %q", got)
	}
}

func TestTempWithoutPower(t *testing.T) { // P4.2: Length answers ErrOff then, and no name is passed over
	b := lay(t, api.Setup{Block: 64, Blocks: 9, Troubles: []api.Trouble{{At: 1, Kind: api.TrCut}}}, 9)
	b.is("Create", b.d.Create("tmp-1"), api.OK)
	b.off()
	if x, y := b.Temp(), b.Temp(); x != "tmp-1" || y != "tmp-2" {
		t.Errorf("Temp() = %q, %q", x, y)
	}
}

func TestSweep(t *testing.T) { // P4.3
	names := []string{"a", "tmp", "tmp-", "tmp-1", "tmp-12", "tmp-2", "tmq"}
	for _, c := range []struct {
		prefix, left string
	}{
		{"tmp-", "a tmp tmq"},
		{"tmp-1", "a tmp tmp- tmp-2 tmq"},
		{"tmp-12", "a tmp tmp- tmp-1 tmp-2 tmq"},
		{"tmp-123", "a tmp tmp- tmp-1 tmp-12 tmp-2 tmq"},
		{"t", "a"},
		{"mp", "a tmp tmp- tmp-1 tmp-12 tmp-2 tmq"},
		{"T", "a tmp tmp- tmp-1 tmp-12 tmp-2 tmq"},
		{"\x00 no name", "a tmp tmp- tmp-1 tmp-12 tmp-2 tmq"},
		{strings.Repeat("t", 99), "a tmp tmp- tmp-1 tmp-12 tmp-2 tmq"},
		{"", ""},
	} {
		b := lay(t, api.Setup{Block: 64, Blocks: 9}, 9)
		for i, name := range names {
			b.is("Create", b.d.Create(name), api.OK)
			if i%2 == 1 {
				b.is("Seal", b.d.Seal(name), api.OK)
			}
		}
		asked := b.calls(func() { b.is("Sweep", b.Sweep(c.prefix), api.OK) })
		if got := strings.Join(b.d.Names(), " "); got != c.left || asked != len(names)-len(b.d.Names()) {
			t.Errorf("Sweep(%q) leaves %q in %d calls, want %q", c.prefix, got, asked, c.left)
		}
		b.out(0)
	}
}

func TestSweepStopsWhereThePowerGoes(t *testing.T) { // P4.3: in the order of Names
	for at := range 4 {
		for bytes := range 2 {
			b := lay(t, api.Setup{Block: 64, Blocks: 9, Troubles: []api.Trouble{{At: 5 + at, Kind: api.TrCut, Bytes: bytes}}}, 9)
			for _, name := range []string{"x-4", "x-1", "y", "x-3", "x-2"} {
				b.is("Create", b.d.Create(name), api.OK)
			}
			b.is("Sweep", b.Sweep("x-"), api.ErrOff)
			var left []string
			for _, f := range b.d.State().Files {
				left = append(left, f.Name)
			}
			if want := []string{"x-1", "x-2", "x-3", "x-4", "y"}[at+bytes:]; !slices.Equal(left, want) {
				t.Errorf("cut at Delete %d, %d bytes: %v is left, want %v", at, bytes, left, want)
			}
			b.still("Sweep without power", func() {
				b.is("Sweep", b.Sweep(""), api.ErrOff)
				b.is("Sweep", b.Sweep("no"), api.ErrOff)
			})
		}
	}
}

func TestSweepWhereADeleteFaults(t *testing.T) { // P4.3: a fault does not befall a Delete
	b := lay(t, api.Setup{Block: 64, Blocks: 9, Troubles: []api.Trouble{{At: 3, Kind: api.TrFault}}}, 9)
	for _, name := range []string{"a", "b", "c"} {
		b.is("Create", b.d.Create(name), api.OK)
	}
	b.is("Sweep", b.Sweep(""), api.OK)
	if n := len(b.d.Names()); n != 0 {
		t.Errorf("%d files are left", n)
	}
}

func TestReady(t *testing.T) { // P4.4, G5
	b := lay(t, api.Setup{Block: 64, Blocks: 9, Troubles: []api.Trouble{{At: 3, Kind: api.TrCut}}}, 0)
	b.is("Create", b.d.Create("open"), api.OK)
	b.lie("shut")
	type names = []string
	long := strings.Repeat("n", api.MaxName)
	for i, c := range []struct {
		in, out names
		want    api.Errno
	}{
		{nil, nil, api.OK},
		{names{}, names{}, api.OK},
		{names{"shut"}, names{"new"}, api.OK},
		{names{"shut", "shut"}, nil, api.OK},
		{nil, names{"x", "y", long}, api.OK},
		{nil, names{"x", "y", "x"}, api.ErrExists},
		{nil, names{"x", "x", "A"}, api.ErrExists},
		{nil, names{"x", "A", "x"}, api.ErrName},
		{nil, names{"A", "A"}, api.ErrName},
		{nil, names{"open"}, api.ErrExists},
		{nil, names{"shut"}, api.ErrExists},
		{nil, names{""}, api.ErrName},
		{nil, names{long + "n"}, api.ErrName},
		{nil, names{"open", "A"}, api.ErrExists},
		{nil, names{"A", "open"}, api.ErrName},
		{names{"no"}, names{"A"}, api.ErrName},
		{names{"A"}, names{"x", "x"}, api.ErrExists},
		{names{""}, nil, api.ErrName},
		{names{"no", "A", "open"}, names{"x"}, api.ErrNoFile},
		{names{"open", "A", "no"}, names{"x"}, api.ErrOpen},
		{names{"shut", "A", "open", "no"}, names{"x"}, api.ErrName},
		{names{"shut"}, names{"shut"}, api.ErrExists},
		{names{"open"}, names{"open"}, api.ErrExists},
		{names{"new"}, names{"new"}, api.ErrNoFile},
	} {
		b.still("Ready", func() {
			if got := b.Ready(c.in, c.out); got != c.want {
				t.Errorf("%d: Ready(%v, %v) = %d, want %d", i, c.in, c.out, got, c.want)
			}
		})
	}
	b.off()
	b.is("Ready without power", b.Ready(nil, nil), api.ErrOff)
	b.is("Ready without power", b.Ready(names{"A"}, names{"A", "shut"}), api.ErrOff)
	b.out(0)
}

func TestReadyKeepsItsListsAsTheyAre(t *testing.T) { // G3
	b := lay(t, api.Setup{Block: 64, Blocks: 9}, 0)
	b.lie("in")
	all := []string{"in", "spare", "y", "x", "y", "spare"}
	in, out := all[:1], all[2:5]
	b.is("Ready", b.Ready(in, out), api.ErrExists)
	if !slices.Equal(all, []string{"in", "spare", "y", "x", "y", "spare"}) {
		t.Errorf("the lists are %v now", all)
	}
	out[0] = "z"
	b.is("Ready", b.Ready(in, out), api.OK)
	b.is("Ready", b.Ready(in, out), api.OK)
}

func TestReadyOfManyNames(t *testing.T) { // G1: it ends soon however many there are
	b := lay(t, api.Setup{Block: 64, Blocks: 9}, 0)
	var names []string
	for range 200000 {
		names = append(names, b.Temp())
	}
	b.is("Ready", b.Ready(nil, names), api.OK)
	b.is("Ready", b.Ready(nil, append(names, "tmp-77777")), api.ErrExists)
}

func TestLastAndSize(t *testing.T) { // P4.14
	for _, size := range []int{64, 96, 160} {
		k := size/32 - 1
		for n := range 4*k + 2 {
			b := lay(t, api.Setup{Block: size, Blocks: 99}, k)
			b.tape("a", api.KindInner, list(1, n)...)
			want, reads := none, 0
			if n > 0 {
				want, reads = one(rec(n)), 1
			}
			asked := b.calls(func() { b.gives("Last", give(b.Last("a", api.KindInner)), want) })
			asked += b.calls(func() {
				if got, e := b.Size("a", api.KindInner); got != n || e != api.OK {
					t.Errorf("Size of %d records of %d a block: %d, %d", n, k, got, e)
				}
			})
			if asked != 2*reads || b.d.Counts().Reads != 2*reads {
				t.Errorf("of %d records of %d a block: %d calls", n, k, asked)
			}
			b.out(0)
		}
	}
}

func TestLastAndSizeTakeTheirRecords(t *testing.T) { // P4.14: also of a tape without blocks
	for _, f := range []func(table) api.Errno{
		func(b table) api.Errno { _, _, e := b.Last("a", api.KindRaw); return e },
		func(b table) api.Errno { _, e := b.Size("a", api.KindRaw); return e },
	} {
		for n := range 4 {
			b := lay(t, api.Setup{Block: 96, Blocks: 99}, 9)
			b.tape("a", api.KindRaw, list(1, n)...)
			b.is("Take", b.p.Take(5), api.OK)
			b.is("the call", f(b), api.OK)
			if b.out(5); b.p.Peak() != 7 {
				t.Errorf("of %d records: %d were out", n, b.p.Peak())
			}
			b.is("Take", b.p.Take(3), api.OK)
			b.still("a refused call", func() { b.is("with K - 1 free", f(b), api.ErrBudget) })
			b.out(8)
		}
	}
}

func TestLastAndSizeRefuse(t *testing.T) { // P4.14, G5: as Back, then as Next
	b := lay(t, api.Setup{Block: 96, Blocks: 99, Troubles: []api.Trouble{{At: 11, Kind: api.TrFault}, {At: 12, Kind: api.TrFault}, {At: 15, Kind: api.TrCut}}}, 2)
	try := func(name string, kind int, want api.Errno) {
		t.Helper()
		was := b.p.Used()
		b.gives("Last", give(b.Last(name, kind)), no(want))
		if n, e := b.Size(name, kind); n != 0 || e != want {
			t.Fatalf("Size(%q, %d) = %d, %d, want %d", name, kind, n, e, want)
		}
		b.out(was)
	}
	b.tape("a", api.KindRaw, list(1, 3)...)              // calls 0 to 3
	b.lie("short", block(96, 1, 0, list(1, 1)), b.fit()) // 4 to 7
	b.is("Create", b.d.Create("open"), api.OK)           // 8
	try("a", api.KindNodes, api.ErrKind)                 // 9, 10
	try("a", api.KindRaw, api.ErrFault)                  // 11, 12
	b.gives("Last", give(b.Last("short", 1)), one(rec(6)))
	if n, e := b.Size("short", 1); n != 4 || e != api.OK { // 14: the last block alone is read
		t.Errorf("Size: %d, %d", n, e)
	}
	b.is("Take", b.p.Take(1), api.OK)
	b.still("a refused call", func() {
		try("a", 0, api.ErrArg)
		try("A", 6, api.ErrArg)
		try("A", 1, api.ErrName)
		try("no", 1, api.ErrNoFile)
		try("open", 1, api.ErrOpen)
		try("a", 1, api.ErrBudget)
	})
	b.off()
	try("A", 0, api.ErrArg)
	try("A", 1, api.ErrOff)
}

// fit is a full block for the place 1 of a tape of two records a block.
func (b table) fit() []byte { return block(96, 1, 1, list(5, 2)) }

func TestAll(t *testing.T) { // P4.15
	for _, size := range []int{64, 96, 160} {
		k := size/32 - 1
		for n := range 3*k + 2 {
			b := lay(t, api.Setup{Block: size, Blocks: 99}, k)
			b.tape("a", api.KindOuter, list(1, n)...)
			all := b.All("a", api.KindOuter)
			if b.d.Counts().Reads != 0 || b.p.Used() != 0 {
				t.Fatalf("All has done something ahead of its going through")
			}
			for pass := range 3 {
				got, was := []api.Rec{}, b.d.Counts().Calls
				for r, e := range all {
					if e != api.OK || b.p.Used() != k {
						t.Fatalf("All: %d, %d are out", e, b.p.Used())
					}
					got = append(got, r)
					if want := (len(got) + k - 1) / k; b.d.Counts().Calls-was != want {
						t.Fatalf("at record %d: %d blocks are read, want %d", len(got), b.d.Counts().Calls-was, want)
					}
				}
				b.same("pass "+strconv.Itoa(pass), got, list(1, n))
				b.out(0)
			}
		}
	}
}

func TestAllThatIsStopped(t *testing.T) { // P4.15
	b := lay(t, api.Setup{Block: 96, Blocks: 99}, 4)
	b.tape("a", api.KindRaw, list(1, 7)...)
	all := b.All("a", api.KindRaw)
	for stop := 1; stop <= 7; stop++ {
		n := 0
		asked := b.calls(func() {
			for r := range all {
				if n++; r != rec(n) {
					t.Fatalf("record %d: %v", n, r)
				}
				if n == stop {
					break
				}
			}
		})
		if b.out(0); n != stop || asked != (stop+1)/2 {
			t.Errorf("stopped at %d: %d given, %d calls", stop, n, asked)
		}
	}
	for x := range all { // one pass within another: each is of its own
		for y := range all {
			if b.out(4); y == rec(3) {
				break
			}
		}
		if b.out(2); x == rec(2) {
			break
		}
	}
	b.out(0)
	func() {
		defer func() { recover() }()
		for range all {
			panic("the one who asks gives up")
		}
	}()
	b.out(0)
}

func TestAllRefuses(t *testing.T) { // P4.15
	b := lay(t, api.Setup{Block: 96, Blocks: 99, Troubles: []api.Trouble{{At: 13, Kind: api.TrFault}, {At: 17, Kind: api.TrCut}}}, 3)
	one := func(name string, kind int, want api.Errno) {
		t.Helper()
		n := 0
		for r, e := range b.All(name, kind) {
			if n++; r != (api.Rec{}) || e != want {
				t.Fatalf("All(%q, %d): %v, %d, want %d", name, kind, r, e, want)
			}
		}
		if n != 1 {
			t.Fatalf("All(%q, %d) gave %d times", name, kind, n)
		}
	}
	b.tape("a", 1, list(1, 5)...) // calls 0 to 4
	b.is("Create", b.d.Create("open"), api.OK)
	b.lie("c", block(96, 1, 0, list(1, 2)), block(96, 1, 1, list(3, 1)), block(96, 1, 2, list(4, 1))) // 6 to 10
	one("a", 0, api.ErrArg)
	one("A", 6, api.ErrArg)
	one("A", 1, api.ErrName)
	one("no", 1, api.ErrNoFile)
	one("open", 1, api.ErrOpen)
	one("a", 2, api.ErrKind) // 11
	b.is("Take", b.p.Take(2), api.OK)
	one("a", 1, api.ErrBudget)
	b.is("Give", b.p.Give(2), api.OK)
	late := func(name string, ahead int, want api.Errno) {
		t.Helper()
		n := 0
		for r, e := range b.All(name, 1) {
			switch n++; {
			case n <= ahead && (e != api.OK || r != rec(n)):
				t.Fatalf("record %d: %v, %d", n, r, e)
			case n > ahead && (e != want || r != api.Rec{}):
				t.Fatalf("the refusal: %v, %d, want %d", r, e, want)
			}
		}
		if b.out(0); n != ahead+1 {
			t.Fatalf("%d were given, want %d", n, ahead+1)
		}
	}
	late("a", 2, api.ErrFault) // 12, 13
	late("c", 2, api.ErrForm)  // 14, 15
	late("a", 2, api.ErrOff)   // 16, 17
	one("A", 0, api.ErrArg)
	one("A", 1, api.ErrOff)
	b.out(0)
}

func TestAllOfAFileThatIsGone(t *testing.T) { // P4.15, P4.11
	b := lay(t, api.Setup{Block: 64, Blocks: 99}, 3)
	b.tape("a", 1, list(1, 3)...)
	var got []api.Errno
	for _, e := range b.All("a", 1) {
		if got = append(got, e); len(got) == 1 {
			b.is("Delete", b.d.Delete("a"), api.OK)
		}
	}
	if b.out(0); !slices.Equal(got, []api.Errno{api.OK, api.ErrNoFile}) {
		t.Errorf("All: %v", got)
	}
}
