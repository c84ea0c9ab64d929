package disk_test

import (
	"bytes"
	"math"
	"reflect"
	"slices"
	"strings"
	"testing"

	"strata/api"
	"strata/disk"
)

func full(c byte) []byte { return bytes.Repeat([]byte{c}, 64) }

func fault(at int) api.Trouble { return api.Trouble{At: at, Kind: api.TrFault} }

func cut(at, n int) api.Trouble { return api.Trouble{At: at, Kind: api.TrCut, Bytes: n} }

func small(blocks int, troubles ...api.Trouble) api.Setup {
	return api.Setup{Block: 64, Blocks: blocks, Troubles: troubles}
}

func newDisk(t *testing.T, s api.Setup) *disk.Disk {
	t.Helper()
	d, e := disk.New(s)
	if d == nil || e != api.OK {
		t.Fatalf("New(%+v): %v, %d", s, d, e)
	}
	return d
}

func mount(t *testing.T, st api.State, s api.Setup) *disk.Disk {
	t.Helper()
	d, e := disk.Mount(st, s)
	if d == nil || e != api.OK {
		t.Fatalf("Mount with %+v: %v, %d", s, d, e)
	}
	return d
}

func want(t *testing.T, what string, got, want api.Errno) {
	t.Helper()
	if got != want {
		t.Errorf("%s: %d, want %d", what, got, want)
	}
}

func wantCounts(t *testing.T, d *disk.Disk, want api.Counts) {
	t.Helper()
	if got := d.Counts(); got != want {
		t.Errorf("Counts: %+v, want %+v", got, want)
	}
}

func wantNames(t *testing.T, d *disk.Disk, want ...string) {
	t.Helper()
	if got := d.Names(); !slices.Equal(got, want) {
		t.Errorf("Names: %q, want %q", got, want)
	}
}

func sameFile(a, b api.File) bool {
	return a.Name == b.Name && a.Sealed == b.Sealed && slices.EqualFunc(a.Blocks, b.Blocks, bytes.Equal)
}

func sameState(a, b api.State) bool {
	return a.Block == b.Block && slices.EqualFunc(a.Files, b.Files, sameFile)
}

func wantState(t *testing.T, d *disk.Disk, files ...api.File) {
	t.Helper()
	if got, want := d.State(), (api.State{Block: d.Block(), Files: files}); !sameState(got, want) {
		t.Errorf("State: %v, want %v", got, want)
	}
}

// store makes a file with these blocks, and leaves it open or sealed.
func store(t *testing.T, d *disk.Disk, name string, sealed bool, blocks ...[]byte) {
	t.Helper()
	want(t, "Create", d.Create(name), api.OK)
	for _, b := range blocks {
		want(t, "Append", d.Append(name, b), api.OK)
	}
	if sealed {
		want(t, "Seal", d.Seal(name), api.OK)
	}
}

// turnOff cuts the power of a disk whose next call is the one that the setup cuts; nothing is done in it.
func turnOff(t *testing.T, d *disk.Disk) {
	t.Helper()
	want(t, "a cut of a Create", d.Create("zz"), api.ErrOff)
	if d.On() {
		t.Errorf("the power is on behind a cut")
	}
}

func TestNewP1_1(t *testing.T) {
	for _, block := range []int{64, 96, 128, 4096, 65504, 65536} {
		for _, blocks := range []int{0, 1, 7, api.MaxBlocks} {
			d := newDisk(t, api.Setup{Block: block, Blocks: blocks})
			if d.Block() != block || d.Blocks() != blocks || !d.On() || len(d.Names()) != 0 {
				t.Errorf("New of %d bytes, %d blocks: %d, %d, %v, %q", block, blocks, d.Block(), d.Blocks(), d.On(), d.Names())
			}
			wantCounts(t, d, api.Counts{})
			wantState(t, d)
		}
	}
}

func wrongSetups() []api.Setup {
	var all []api.Setup
	for _, block := range []int{math.MinInt, -64, -32, 0, 1, 31, 32, 63, 65, 80, 95, 65535, 65537, 65552, 65568, 131072, math.MaxInt - 31, math.MaxInt} {
		all = append(all, api.Setup{Block: block, Blocks: 1})
	}
	for _, blocks := range []int{math.MinInt, -1, api.MaxBlocks + 1, math.MaxInt} {
		all = append(all, api.Setup{Block: 64, Blocks: blocks})
	}
	return all
}

func TestNewRefusedP1_1(t *testing.T) {
	for _, s := range wrongSetups() {
		if d, e := disk.New(s); d != nil || e != api.ErrArg {
			t.Errorf("New(%+v): %v, %d", s, d, e)
		}
	}
}

func TestNewTakesTroublesP1_1(t *testing.T) {
	d := newDisk(t, small(1, fault(0)))
	want(t, "Create under a fault", d.Create("a"), api.ErrFault)
	want(t, "Create behind it", d.Create("a"), api.OK)
}

// allNames rise: - is below ., that below the digits, those below the letters; a beginning is ahead of what it begins.
func allNames() []string {
	return []string{"-", "-a", ".", "0", "9", "a", "a-", "a.", "a0", "aa", "ab", "b", "z", strings.Repeat("z", 31), strings.Repeat("z", 32)}
}

func noNames() []string {
	return []string{"", "A", "Z", "a b", " ", "a_b", "/", ":", ",", "`", "{", "a\x00", "\x00", "\xff", "é", "a\n", strings.Repeat("a", 33), strings.Repeat("a", 1000), strings.Repeat("a", 31) + "é", strings.Repeat("a", 31) + "A"}
}

func TestMountP1_2(t *testing.T) {
	st := api.State{Block: 64}
	for i, name := range allNames() {
		st.Files = append(st.Files, api.File{Name: name, Sealed: i%2 == 0, Blocks: [][]byte{full(byte(i)), full(7)}[:i%3]})
	}
	used := 0
	for _, f := range st.Files {
		used += len(f.Blocks)
	}
	for _, blocks := range []int{used, used + 1, api.MaxBlocks} {
		d := mount(t, st, small(blocks))
		if !d.On() || d.Block() != 64 || d.Blocks() != blocks {
			t.Errorf("mounted: %v, %d, %d", d.On(), d.Block(), d.Blocks())
		}
		wantState(t, d, st.Files...)
		wantNames(t, d, allNames()...)
		wantCounts(t, d, api.Counts{Used: used, Most: used})
	}
	if d, e := disk.Mount(st, small(used-1)); d != nil || e != api.ErrFull {
		t.Errorf("Mount of more blocks than there are: %v, %d", d, e)
	}
}

func TestMountLargestBlockP1_2(t *testing.T) {
	b := bytes.Repeat([]byte{5}, api.MaxBlock)
	f := api.File{Name: "a", Sealed: true, Blocks: [][]byte{b}}
	d := mount(t, api.State{Block: api.MaxBlock, Files: []api.File{f}}, api.Setup{Block: api.MaxBlock, Blocks: 1})
	wantState(t, d, f)
}

func TestMountNumbersFromNoughtP1_2(t *testing.T) {
	d := newDisk(t, small(4))
	store(t, d, "a", true, full(1))
	m := mount(t, d.State(), small(4, fault(0), cut(1, 0)))
	_, e := m.Read("a", 0)
	want(t, "the first call behind Mount", e, api.ErrFault)
	_, e = m.Read("a", 0)
	want(t, "the second call behind Mount", e, api.ErrOff)
	wantCounts(t, m, api.Counts{Calls: 2, Faults: 1, Used: 1, Most: 1})
}

func files(list ...api.File) api.State { return api.State{Block: 64, Files: list} }

func wrongStates() []api.State {
	f := func(name string, blocks ...[]byte) api.File { return api.File{Name: name, Blocks: blocks} }
	all := []api.State{
		{}, {Block: 32}, {Block: 96}, {Block: -64}, {Block: math.MaxInt}, {Block: math.MinInt},
		files(f("b"), f("a")), files(f("a"), f("a")), files(f("a"), f("b"), f("b")), files(f("aa"), f("a")), files(f("."), f("-")), files(f("0"), f(".")), files(f("a"), f("9")),
		files(f("a", nil)), files(f("a", []byte{})), files(f("a", []byte{1})), files(f("a", full(1)[:63])), files(f("a", append(full(1), 1))), files(f("a", full(1), full(2)[:1])), files(f("a", full(1)), f("b", full(1), nil)),
	}
	for _, name := range noNames() {
		all = append(all, files(f(name)), files(f("a"), f(name)))
	}
	return all
}

func TestMountRefusedP1_2(t *testing.T) {
	for i, st := range wrongStates() {
		for _, blocks := range []int{0, 9} { // with 0 some are too large as well: ErrState is told ahead of ErrFull
			if d, e := disk.Mount(st, small(blocks)); d != nil || e != api.ErrState {
				t.Errorf("state %d with %d blocks: %v, %d", i, blocks, d, e)
			}
		}
		for _, s := range wrongSetups() {
			if d, e := disk.Mount(st, s); d != nil || e != api.ErrArg {
				t.Errorf("state %d with %+v: %v, %d", i, s, d, e)
			}
		}
	}
	// The wrong file stands behind those that are too many already.
	st := files(api.File{Name: "a", Blocks: [][]byte{full(1), full(2)}}, api.File{Name: "A"})
	_, e := disk.Mount(st, small(1))
	want(t, "too large and wrong", e, api.ErrState)
	_, e = disk.Mount(files(api.File{Name: "a", Blocks: [][]byte{full(1)}}), small(0))
	want(t, "a block, where there is none", e, api.ErrFull)
}

func TestCreateP1_3(t *testing.T) {
	d := newDisk(t, small(0, cut(len(allNames()), 0)))
	for i, name := range allNames() {
		want(t, "Create", d.Create(name), api.OK)
		want(t, "Create twice", d.Create(name), api.ErrExists)
		if n, sealed, e := d.Length(name); n != 0 || sealed || e != api.OK {
			t.Errorf("a new file: %d, %v, %d", n, sealed, e)
		}
		wantCounts(t, d, api.Counts{Calls: i + 1})
	}
	want(t, "the cut", d.Create("new"), api.ErrOff)
	for _, name := range []string{"new", "a", "A", ""} {
		want(t, "Create without power", d.Create(name), api.ErrOff)
	}
	wantCounts(t, d, api.Counts{Calls: len(allNames()) + 1})
}

func TestCreateSealedNameP1_3(t *testing.T) {
	d := newDisk(t, small(1))
	store(t, d, "a", true, full(1))
	want(t, "Create of a sealed file's name", d.Create("a"), api.ErrExists)
	wantState(t, d, api.File{Name: "a", Sealed: true, Blocks: [][]byte{full(1)}})
}

func TestNoNamesAreRefused(t *testing.T) {
	d := newDisk(t, small(9))
	store(t, d, "a", true, full(1))
	before, counts := d.State(), d.Counts()
	for _, name := range noNames() {
		want(t, "P1.3: Create", d.Create(name), api.ErrName)
		want(t, "P1.4: Append", d.Append(name, nil), api.ErrName)
		want(t, "P1.5: Seal", d.Seal(name), api.ErrName)
		_, e := d.Read(name, -1)
		want(t, "P1.6: Read", e, api.ErrName)
		want(t, "P1.7: Delete", d.Delete(name), api.ErrName)
		_, _, e = d.Length(name)
		want(t, "P1.8: Length", e, api.ErrName)
		want(t, "P1.11: Spoil", d.Spoil(name, -1, -1), api.ErrName)
	}
	if !sameState(before, d.State()) || counts != d.Counts() {
		t.Errorf("P1.13: changed by what was refused: %v, %+v", d.State(), d.Counts())
	}
}

func TestAppendP1_4(t *testing.T) {
	d := newDisk(t, small(3, cut(8, 0)))
	want(t, "no file", d.Append("a", nil), api.ErrNoFile)
	store(t, d, "a", false)
	store(t, d, "s", true)
	want(t, "a sealed file and a wrong block", d.Append("s", nil), api.ErrSealed)
	for _, b := range [][]byte{nil, {}, {1}, full(1)[:63], append(full(1), 0), make([]byte, 65536)} {
		want(t, "a wrong block", d.Append("a", b), api.ErrBlock)
	}
	for i := range 3 {
		want(t, "Append", d.Append("a", full(byte(i))), api.OK)
	}
	wantState(t, d, api.File{Name: "a", Blocks: [][]byte{full(0), full(1), full(2)}}, api.File{Name: "s", Sealed: true})
	want(t, "no block is free", d.Append("a", full(9)), api.ErrFull)
	want(t, "none free, a wrong block", d.Append("a", full(9)[:1]), api.ErrBlock)
	want(t, "none free, a sealed file", d.Append("s", full(9)), api.ErrSealed)
	wantCounts(t, d, api.Counts{Calls: 6, Appends: 3, Full: 1, Used: 3, Most: 3})
	want(t, "Delete makes room", d.Delete("a"), api.OK)
	store(t, d, "b", false)
	turnOff(t, d)
	for _, name := range []string{"b", "s", "none", "A", ""} {
		want(t, "Append without power", d.Append(name, full(1)), api.ErrOff)
	}
}

func TestAppendLargestBlockP1_4(t *testing.T) {
	d := newDisk(t, api.Setup{Block: api.MaxBlock, Blocks: 1})
	b := make([]byte, api.MaxBlock)
	for i := range b {
		b[i] = byte(i % 251)
	}
	store(t, d, "a", true, b)
	if got, e := d.Read("a", 0); e != api.OK || !bytes.Equal(got, b) {
		t.Errorf("Read of a large block: %d", e)
	}
}

func TestAppendOnAFullDiskP1_4(t *testing.T) {
	d := newDisk(t, small(0, fault(1), cut(1, 64)))
	store(t, d, "a", false)
	for range 3 { // no number: no trouble befalls it
		want(t, "Append with Blocks 0", d.Append("a", full(1)), api.ErrFull)
	}
	wantCounts(t, d, api.Counts{Calls: 1, Full: 3})
	want(t, "Seal", d.Seal("a"), api.ErrFault)
}

func TestSealP1_5(t *testing.T) {
	d := newDisk(t, small(1, cut(4, 0)))
	want(t, "no file", d.Seal("a"), api.ErrNoFile)
	store(t, d, "a", false, full(1))
	store(t, d, "b", false)
	want(t, "Seal", d.Seal("a"), api.OK)
	want(t, "Seal twice", d.Seal("a"), api.ErrSealed)
	wantState(t, d, api.File{Name: "a", Sealed: true, Blocks: [][]byte{full(1)}}, api.File{Name: "b"})
	wantCounts(t, d, api.Counts{Calls: 4, Appends: 1, Used: 1, Most: 1})
	turnOff(t, d)
	for _, name := range []string{"a", "b", "none", ""} {
		want(t, "Seal without power", d.Seal(name), api.ErrOff)
	}
}

func TestReadP1_6(t *testing.T) {
	d := newDisk(t, small(4, cut(10, 0)))
	_, e := d.Read("a", 0)
	want(t, "no file", e, api.ErrNoFile)
	store(t, d, "a", true, full(3), full(4))
	store(t, d, "open", false, full(5))
	store(t, d, "none", true)
	for i, c := range []byte{3, 4} {
		if b, e := d.Read("a", i); e != api.OK || !bytes.Equal(b, full(c)) {
			t.Errorf("Read of block %d: %v, %d", i, b, e)
		}
	}
	for _, i := range []int{math.MinInt, -1, 2, 3, math.MaxInt} {
		b, e := d.Read("a", i)
		want(t, "no such block", e, api.ErrBlock)
		_, e = d.Read("open", i)
		want(t, "not sealed", e, api.ErrOpen)
		if len(b) != 0 {
			t.Errorf("bytes beside an error: %v", b)
		}
	}
	_, e = d.Read("none", 0)
	want(t, "a file without blocks", e, api.ErrBlock)
	wantCounts(t, d, api.Counts{Calls: 10, Reads: 2, Appends: 3, Used: 3, Most: 3})
	turnOff(t, d)
	for _, name := range []string{"a", "open", "nope", ""} {
		b, e := d.Read(name, 0)
		want(t, "Read without power", e, api.ErrOff)
		if len(b) != 0 {
			t.Errorf("bytes beside an error: %v", b)
		}
	}
}

func TestDeleteP1_7(t *testing.T) {
	d := newDisk(t, small(3, cut(11, 0)))
	want(t, "no file", d.Delete("a"), api.ErrNoFile)
	store(t, d, "a", true, full(1), full(2))
	store(t, d, "b", false, full(3))
	want(t, "Delete of an open file", d.Delete("b"), api.OK)
	wantNames(t, d, "a")
	want(t, "Delete of a sealed file", d.Delete("a"), api.OK)
	want(t, "Delete twice", d.Delete("a"), api.ErrNoFile)
	wantState(t, d)
	wantCounts(t, d, api.Counts{Calls: 8, Appends: 3, Most: 3})
	store(t, d, "a", false, full(1), full(2))
	turnOff(t, d)
	for _, name := range []string{"a", "none", ""} {
		want(t, "Delete without power", d.Delete(name), api.ErrOff)
	}
}

func TestLengthAndNamesP1_8(t *testing.T) {
	d := newDisk(t, small(3, cut(19, 0)))
	for _, name := range slices.Backward(allNames()) {
		store(t, d, name, false)
	}
	wantNames(t, d, allNames()...)
	want(t, "Append", d.Append("a", full(1)), api.OK)
	want(t, "Append", d.Append("a", full(1)), api.OK)
	want(t, "Seal", d.Seal("a"), api.OK)
	want(t, "Append", d.Append("b", full(1)), api.OK)
	counts := d.Counts()
	for _, c := range []struct {
		name   string
		n      int
		sealed bool
		e      api.Errno
	}{{"a", 2, true, api.OK}, {"b", 1, false, api.OK}, {"z", 0, false, api.OK}, {"c", 0, false, api.ErrNoFile}, {"", 0, false, api.ErrName}} {
		if n, sealed, e := d.Length(c.name); n != c.n || sealed != c.sealed || e != c.e {
			t.Errorf("Length(%q): %d, %v, %d", c.name, n, sealed, e)
		}
	}
	if d.Counts() != counts || counts.Calls != 19 {
		t.Errorf("Length and Names are numbered: %+v", d.Counts())
	}
	turnOff(t, d)
	wantNames(t, d)
	for _, name := range []string{"a", "c", ""} {
		if n, sealed, e := d.Length(name); n != 0 || sealed || e != api.ErrOff {
			t.Errorf("Length(%q) without power: %d, %v, %d", name, n, sealed, e)
		}
	}
}

func TestAsksWithoutPowerP1_9(t *testing.T) {
	d := newDisk(t, api.Setup{Block: 96, Blocks: 5, Troubles: []api.Trouble{cut(4, 0)}})
	b := bytes.Repeat([]byte{7}, 96)
	store(t, d, "b", true, b)
	store(t, d, "a", false)
	for _, on := range []bool{true, false} {
		if d.On() != on || d.Block() != 96 || d.Blocks() != 5 {
			t.Errorf("power %v: %v, %d, %d", on, d.On(), d.Block(), d.Blocks())
		}
		wantState(t, d, api.File{Name: "a"}, api.File{Name: "b", Sealed: true, Blocks: [][]byte{b}})
		if on {
			wantCounts(t, d, api.Counts{Calls: 4, Appends: 1, Used: 1, Most: 1})
			turnOff(t, d)
		}
		if c := d.Counts(); !on && c != (api.Counts{Calls: 5, Appends: 1, Used: 1, Most: 1}) {
			t.Errorf("Counts without power: %+v", c)
		}
	}
}

func TestCountsP1_10(t *testing.T) {
	d := newDisk(t, small(2, fault(1), fault(5), fault(8), cut(10, 9)))
	store(t, d, "a", false)                              // 0
	want(t, "1", d.Append("a", full(1)), api.ErrFault)   // 1
	want(t, "2", d.Append("a", full(1)), api.OK)         // 2
	want(t, "3", d.Append("a", full(2)), api.OK)         // 3
	want(t, "full", d.Append("a", full(3)), api.ErrFull) // none
	want(t, "wrong", d.Append("a", nil), api.ErrBlock)   // none
	want(t, "again full", d.Append("a", full(3)), api.ErrFull)
	want(t, "4", d.Seal("a"), api.OK) // 4
	_, e := d.Read("a", 0)            // 5
	want(t, "5", e, api.ErrFault)
	_, e = d.Read("a", 0) // 6
	want(t, "6", e, api.OK)
	wantCounts(t, d, api.Counts{Calls: 7, Reads: 1, Appends: 2, Faults: 2, Full: 2, Used: 2, Most: 2})
	want(t, "7", d.Delete("a"), api.OK)       // 7
	want(t, "8", d.Create("b"), api.ErrFault) // 8
	want(t, "9", d.Create("b"), api.OK)       // 9
	wantCounts(t, d, api.Counts{Calls: 10, Reads: 1, Appends: 2, Faults: 3, Full: 2, Most: 2})
	want(t, "10", d.Append("b", full(4)), api.ErrOff) // 10: a block stands, though the Append is not OK
	last := api.Counts{Calls: 11, Reads: 1, Appends: 2, Faults: 3, Full: 2, Used: 1, Most: 2}
	wantCounts(t, d, last)
	d.Create("c")
	d.Append("b", full(4))
	d.Read("b", 0)
	wantCounts(t, d, last)
}

func TestMostP1_10(t *testing.T) {
	d := newDisk(t, small(3, cut(1, 1)))
	store(t, d, "a", false)
	want(t, "a cut Append", d.Append("a", full(1)), api.ErrOff)
	wantCounts(t, d, api.Counts{Calls: 2, Used: 1, Most: 1})
	m := mount(t, d.State(), small(3, cut(1, 1)))
	wantCounts(t, m, api.Counts{Used: 1, Most: 1})
	want(t, "Append", m.Append("a", full(2)), api.OK)
	want(t, "a cut Delete", m.Delete("a"), api.ErrOff)
	wantCounts(t, m, api.Counts{Calls: 2, Appends: 1, Used: 0, Most: 2})
}

func TestSpoilP1_11(t *testing.T) {
	d := newDisk(t, small(4, cut(8, 0)))
	store(t, d, "a", true, full(0), full(8))
	store(t, d, "o", false, full(0xff))
	counts := d.Counts()
	spoilAndLook(t, d)
	if d.Counts() != counts {
		t.Errorf("Spoil is numbered: %+v", d.Counts())
	}
	want(t, "Delete", d.Delete("o"), api.OK)
	store(t, d, "o", false)
	want(t, "no block", d.Spoil("o", 0, 0), api.ErrBlock)
	turnOff(t, d)
	want(t, "no name", d.Spoil("O", 0, 0), api.ErrName)
	want(t, "no file", d.Spoil("b", 0, 0), api.ErrNoFile)
	want(t, "no block", d.Spoil("a", 2, 0), api.ErrBlock)
	want(t, "without power", d.Spoil("a", 0, 8), api.OK)
	if b := d.State().Files[0].Blocks[0]; b[1] != 1 {
		t.Errorf("spoilt without power: %v", b)
	}
}

func spoilAndLook(t *testing.T, d *disk.Disk) {
	t.Helper()
	for bit := range 8 * 64 {
		want(t, "Spoil", d.Spoil("a", 1, bit), api.OK)
		b := full(8)
		b[bit/8] ^= 1 << (bit % 8)
		wantState(t, d, api.File{Name: "a", Sealed: true, Blocks: [][]byte{full(0), b}}, api.File{Name: "o", Blocks: [][]byte{full(0xff)}})
		want(t, "Spoil back", d.Spoil("a", 1, bit), api.OK)
	}
	want(t, "Spoil of an open file", d.Spoil("o", 0, 511), api.OK)
	if b := d.State().Files[1].Blocks[0]; b[63] != 0x7f {
		t.Errorf("an open file's bit: %v", b)
	}
	want(t, "no file", d.Spoil("b", 0, 0), api.ErrNoFile)
	for _, i := range []int{math.MinInt, -1, 2, math.MaxInt} {
		want(t, "no such block", d.Spoil("a", i, 0), api.ErrBlock)
	}
	for _, bit := range []int{math.MinInt, -1, 512, 513, math.MaxInt} {
		want(t, "no such bit", d.Spoil("a", 0, bit), api.ErrBlock)
	}
}

func TestFaults(t *testing.T) {
	d := newDisk(t, small(1, fault(0), fault(2), fault(4), fault(6), fault(8)))
	want(t, "Create", d.Create("a"), api.ErrFault)
	wantState(t, d)
	want(t, "Create", d.Create("a"), api.OK)
	want(t, "Append", d.Append("a", full(1)), api.ErrFault)
	wantState(t, d, api.File{Name: "a"})
	want(t, "Append", d.Append("a", full(2)), api.OK)
	want(t, "Seal", d.Seal("a"), api.ErrFault)
	wantState(t, d, api.File{Name: "a", Blocks: [][]byte{full(2)}})
	want(t, "Seal", d.Seal("a"), api.OK)
	b, e := d.Read("a", 0)
	want(t, "Read", e, api.ErrFault)
	if len(b) != 0 {
		t.Errorf("bytes beside a fault: %v", b)
	}
	if b, e := d.Read("a", 0); e != api.OK || !bytes.Equal(b, full(2)) {
		t.Errorf("Read behind a fault: %v, %d", b, e)
	}
	want(t, "Delete is done under a fault", d.Delete("a"), api.OK)
	wantState(t, d)
	wantCounts(t, d, api.Counts{Calls: 9, Reads: 1, Appends: 1, Faults: 4, Most: 1})
	if !d.On() {
		t.Errorf("a fault has cut the power")
	}
}

func TestCutsOfAppends(t *testing.T) {
	b := make([]byte, 64)
	for i := range b {
		b[i] = byte(i + 1)
	}
	for _, n := range []int{math.MinInt, -1, 0, 1, 2, 31, 63, 64, 65, 65536, math.MaxInt} {
		d := newDisk(t, small(2, cut(2, n)))
		store(t, d, "a", false, full(9))
		want(t, "a cut Append", d.Append("a", b), api.ErrOff)
		blocks := [][]byte{full(9)}
		if n > 0 {
			torn := make([]byte, 64)
			copy(torn, b[:min(n, 64)])
			blocks = append(blocks, torn)
		}
		wantState(t, d, api.File{Name: "a", Blocks: blocks})
		wantCounts(t, d, api.Counts{Calls: 3, Appends: 1, Used: len(blocks), Most: len(blocks)})
	}
}

func TestCutsOfTheOthers(t *testing.T) {
	a := api.File{Name: "a", Blocks: [][]byte{full(1)}}
	shut := api.File{Name: "a", Sealed: true, Blocks: [][]byte{full(1)}}
	for _, n := range []int{math.MinInt, -1, 0, 1, 64, math.MaxInt} {
		done := n > 0
		d := newDisk(t, small(2, cut(2, n)))
		store(t, d, "a", false, full(1))
		want(t, "a cut Create", d.Create("b"), api.ErrOff)
		wantState(t, d, []api.File{a, {Name: "b"}}[:1+btoi(done)]...)

		d = newDisk(t, small(2, cut(2, n)))
		store(t, d, "a", false, full(1))
		want(t, "a cut Seal", d.Seal("a"), api.ErrOff)
		wantState(t, d, []api.File{a, shut}[btoi(done)])

		d = newDisk(t, small(2, cut(2, n)))
		store(t, d, "a", false, full(1))
		want(t, "a cut Delete", d.Delete("a"), api.ErrOff)
		wantState(t, d, []api.File{a}[btoi(done):]...)

		d = newDisk(t, small(2, cut(3, n)))
		store(t, d, "a", true, full(1))
		b, e := d.Read("a", 0)
		want(t, "a cut Read", e, api.ErrOff)
		wantState(t, d, shut)
		wantCounts(t, d, api.Counts{Calls: 4, Appends: 1, Used: 1, Most: 1})
		if len(b) != 0 || d.On() {
			t.Errorf("a cut Read: %v, power %v", b, d.On())
		}
	}
}

func btoi(b bool) int {
	if b {
		return 1
	}
	return 0
}

func TestFirstTroubleBefalls(t *testing.T) {
	odd := []api.Trouble{{At: 1, Kind: 0, Bytes: 64}, {At: 1, Kind: 3}, {At: 1, Kind: -1}, {At: 1, Kind: math.MaxInt}, fault(-1), cut(math.MinInt, 1), cut(math.MaxInt, 1)}
	for _, c := range []struct {
		list []api.Trouble
		e    api.Errno
	}{
		{nil, api.OK},
		{odd, api.OK},
		{append(slices.Clone(odd), fault(1), cut(1, 64)), api.ErrFault},
		{append(slices.Clone(odd), cut(1, 64), fault(1)), api.ErrOff},
		{[]api.Trouble{fault(2), fault(1), cut(1, 1), fault(0)}[:3], api.ErrFault},
		{[]api.Trouble{cut(2, 1), cut(1, 0), cut(1, 64)}, api.ErrOff},
	} {
		d := newDisk(t, small(9, c.list...))
		store(t, d, "a", false)
		want(t, "Append", d.Append("a", full(1)), c.e)
		if n := len(d.State().Files[0].Blocks); c.e != api.OK && len(c.list) == 3 && n != 0 {
			t.Errorf("%v: %d blocks", c.list, n)
		}
		if d.On() != (c.e != api.ErrOff) {
			t.Errorf("%v: power %v", c.list, d.On())
		}
	}
	// A fault hides the cut behind it also from a Delete, which no fault befalls.
	d := newDisk(t, small(9, fault(1), cut(1, 1)))
	store(t, d, "a", false)
	want(t, "Delete", d.Delete("a"), api.OK)
	if !d.On() {
		t.Errorf("the cut behind a fault has befallen a Delete")
	}
	wantCounts(t, d, api.Counts{Calls: 2})
}

// TestRefusedCallsHaveNoNumber: the trouble of the next number waits until a call has that number.
func TestRefusedCallsHaveNoNumber(t *testing.T) {
	d := newDisk(t, small(1, cut(4, 1)))
	store(t, d, "s", true)
	store(t, d, "o", false, full(1))
	for _, c := range []struct {
		got, want api.Errno
	}{
		{d.Create("s"), api.ErrExists}, {d.Create("?"), api.ErrName}, {d.Append("o", nil), api.ErrBlock}, {d.Append("o", full(1)), api.ErrFull}, {d.Append("s", full(1)), api.ErrSealed}, {d.Append("n", full(1)), api.ErrNoFile}, {d.Seal("s"), api.ErrSealed}, {d.Seal("n"), api.ErrNoFile}, {d.Delete("n"), api.ErrNoFile}, {d.Spoil("o", 0, 0), api.OK},
	} {
		want(t, "a call without a number", c.got, c.want)
	}
	_, e := d.Read("o", 0)
	want(t, "Read", e, api.ErrOpen)
	_, e = d.Read("s", 0)
	want(t, "Read", e, api.ErrBlock)
	d.Names()
	d.Length("o")
	d.State()
	if d.Counts().Calls != 4 || !d.On() {
		t.Errorf("numbered: %+v", d.Counts())
	}
	want(t, "the call with number 4", d.Seal("o"), api.ErrOff)
}

func TestOffIsForEver(t *testing.T) {
	d := newDisk(t, small(4, cut(3, 0), fault(4), cut(5, 1)))
	store(t, d, "a", true, full(1))
	turnOff(t, d)
	st, counts := d.State(), d.Counts()
	for range 3 {
		want(t, "Create", d.Create("b"), api.ErrOff)
		want(t, "Append", d.Append("a", full(1)), api.ErrOff)
		want(t, "Seal", d.Seal("a"), api.ErrOff)
		want(t, "Delete", d.Delete("a"), api.ErrOff)
		_, e := d.Read("a", 0)
		want(t, "Read", e, api.ErrOff)
	}
	if d.On() || d.Counts() != counts || !sameState(d.State(), st) {
		t.Errorf("changed without power: %v, %+v, %v", d.On(), d.Counts(), d.State())
	}
	m := mount(t, st, small(4))
	want(t, "the mounted disk goes on", m.Delete("a"), api.OK)
	if d.On() || !sameState(d.State(), st) {
		t.Errorf("a mounted disk is not another one")
	}
}

// TestHandedInIsNotKept: G3, of what comes in.
func TestHandedInIsNotKept(t *testing.T) {
	troubles := []api.Trouble{fault(9), fault(9)}[:1]
	d := newDisk(t, api.Setup{Block: 64, Blocks: 9, Troubles: troubles})
	troubles[0].At = 0
	_ = append(troubles, cut(0, 1))
	want(t, "G3: Create", d.Create("a"), api.OK)

	room := append(full(7), full(6)...)
	block := room[:64]
	want(t, "G3: Append", d.Append("a", block), api.OK)
	if !bytes.Equal(room, append(full(7), full(6)...)) {
		t.Errorf("G3: Append has changed what it was handed: %v", room)
	}
	block[0] = 99
	wantState(t, d, api.File{Name: "a", Blocks: [][]byte{full(7)}})

	spare := [][]byte{full(1), full(2)}
	st := files(api.File{Name: "a", Sealed: true, Blocks: spare[:1]})
	copyOf := files(api.File{Name: "a", Sealed: true, Blocks: [][]byte{full(1)}})
	m := mount(t, st, small(9))
	want(t, "G3: Spoil", m.Spoil("a", 0, 0), api.OK)
	if !sameState(st, copyOf) || !bytes.Equal(spare[1], full(2)) {
		t.Errorf("G3: a mounted state has changed: %v", st)
	}
	want(t, "G3: Spoil", m.Spoil("a", 0, 0), api.OK)
	st.Files[0].Blocks[0][5] = 99
	st.Files[0].Blocks[0] = full(8)
	st.Files[0].Sealed = false
	st.Files[0].Name = "b"
	wantState(t, m, copyOf.Files...)
}

// TestOpenStateIsNotKept: G3, of a mounted file that takes further blocks: they do not go into the spare room of the list.
func TestOpenStateIsNotKept(t *testing.T) {
	spare := [][]byte{full(1), full(2)}
	m := mount(t, files(api.File{Name: "a", Blocks: spare[:1]}), small(9))
	want(t, "Append", m.Append("a", full(3)), api.OK)
	if !bytes.Equal(spare[1], full(2)) {
		t.Errorf("G3: spare room of a state has changed")
	}
}

// TestAnswersAreNew: G3, of what goes out.
func TestAnswersAreNew(t *testing.T) {
	d := newDisk(t, small(9))
	store(t, d, "a", true, full(1), full(2))
	store(t, d, "b", true, full(3))
	ruin := func(b []byte) {
		for i := range b[:cap(b)] {
			b[:cap(b)][i] = 0xee
		}
	}
	b, _ := d.Read("a", 0)
	ruin(b)
	if c, _ := d.Read("a", 0); !bytes.Equal(c, full(1)) {
		t.Errorf("G3: Read answers the disk's own memory")
	}
	names := d.Names()
	clear(names[:cap(names)])
	wantNames(t, d, "a", "b")

	st := d.State()
	ruin(st.Files[0].Blocks[0])
	if !bytes.Equal(st.Files[0].Blocks[1], full(2)) || !bytes.Equal(st.Files[1].Blocks[0], full(3)) {
		t.Errorf("G3: two lists of one State share memory")
	}
	_ = append(st.Files[0].Blocks, full(9))
	if !bytes.Equal(st.Files[1].Blocks[0], full(3)) {
		t.Errorf("G3: two lists of one State share spare room")
	}
	clear(st.Files[1].Blocks)
	clear(st.Files)
	wantState(t, d, api.File{Name: "a", Sealed: true, Blocks: [][]byte{full(1), full(2)}}, api.File{Name: "b", Sealed: true, Blocks: [][]byte{full(3)}})
}

// TestNilAndEmpty: G4.
func TestNilAndEmpty(t *testing.T) {
	a := newDisk(t, api.Setup{Block: 64, Blocks: 1, Troubles: nil})
	b := newDisk(t, api.Setup{Block: 64, Blocks: 1, Troubles: []api.Trouble{}})
	c := mount(t, api.State{Block: 64, Files: []api.File{}}, small(1))
	for _, d := range []*disk.Disk{a, b, c} {
		want(t, "nil", d.Append("a", nil), api.ErrNoFile)
		store(t, d, "a", false)
		want(t, "nil", d.Append("a", nil), api.ErrBlock)
		want(t, "empty", d.Append("a", []byte{}), api.ErrBlock)
		m := mount(t, files(api.File{Name: "a", Blocks: [][]byte{}}), small(1))
		if !reflect.DeepEqual(m.State(), d.State()) {
			t.Errorf("nil and empty lists: %#v, %#v", m.State(), d.State())
		}
	}
}

// TestChapterExample: the table of the chapter.
func TestChapterExample(t *testing.T) {
	d := newDisk(t, small(2, fault(3), cut(5, 3)))
	want(t, "Create", d.Create("a"), api.OK)
	want(t, "Append", d.Append("a", full(7)), api.OK)
	_, e := d.Read("a", 0)
	want(t, "Read", e, api.ErrOpen)
	want(t, "Append", d.Append("a", full(8)), api.OK)
	want(t, "Append", d.Append("a", full(9)), api.ErrFull)
	want(t, "Seal", d.Seal("a"), api.ErrFault)
	want(t, "Seal", d.Seal("a"), api.OK)
	wantCounts(t, d, api.Counts{Calls: 5, Appends: 2, Faults: 1, Full: 1, Used: 2, Most: 2})
	want(t, "Create", d.Create("b"), api.ErrOff)
	wantState(t, d, api.File{Name: "a", Sealed: true, Blocks: [][]byte{full(7), full(8)}}, api.File{Name: "b"})
	want(t, "Spoil", d.Spoil("a", 1, 9), api.OK)
	if b := d.State().Files[0].Blocks[1]; b[0] != 8 || b[1] != 10 || b[2] != 8 {
		t.Errorf("Spoil: %v", b)
	}
}
