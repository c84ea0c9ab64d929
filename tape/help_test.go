package tape_test

import (
	"encoding/binary"
	"hash/crc32"
	"reflect"
	"slices"
	"testing"

	"strata/api"
	"strata/disk"
	"strata/purse"
	"strata/tape"
)

// table is a desk with its disk and its purse, and the test that it is for.
type table struct {
	*testing.T
	*tape.Desk
	d *disk.Disk
	p *purse.Purse
}

func lay(t *testing.T, s api.Setup, records int) table {
	t.Helper()
	d, e := disk.New(s)
	if e != api.OK {
		t.Fatalf("disk.New: %d", e)
	}
	return seat(t, d, records)
}

// seat is a desk of its own at a disk.
func seat(t *testing.T, d *disk.Disk, records int) table {
	t.Helper()
	p, e := purse.New(records)
	if e != api.OK {
		t.Fatalf("purse.New: %d", e)
	}
	k, e := tape.NewDesk(d, p)
	if e != api.OK || k == nil {
		t.Fatalf("NewDesk: %v, %d", k, e)
	}
	return table{t, k, d, p}
}

// is fails the test unless a call has answered what it must.
func (b table) is(what string, got, want api.Errno) {
	b.Helper()
	if got != want {
		b.Fatalf("%s: %d, want %d", what, got, want)
	}
}

// out fails the test unless so many records are out of the purse.
func (b table) out(want int) {
	b.Helper()
	if got := b.p.Used(); got != want {
		b.Fatalf("%d records are out of the purse, want %d", got, want)
	}
}

// still fails the test if f makes a numbered call or changes a file.
func (b table) still(what string, f func()) {
	b.Helper()
	calls, state := b.d.Counts(), b.d.State()
	f()
	if b.d.Counts() != calls || !reflect.DeepEqual(b.d.State(), state) {
		b.Fatalf("%s has asked the disk for something", what)
	}
}

// calls is how many calls f makes the disk number.
func (b table) calls(f func()) int {
	was := b.d.Counts().Calls
	f()
	return b.d.Counts().Calls - was
}

func (b table) write(name string, kind int) *tape.Writer {
	b.Helper()
	w, e := b.Write(name, kind)
	if e != api.OK || w == nil {
		b.Fatalf("Write(%q, %d): %d", name, kind, e)
	}
	return w
}

func (b table) put(w *tape.Writer, list ...api.Rec) {
	b.Helper()
	for _, r := range list {
		b.is("Put", w.Put(r), api.OK)
	}
}

// tape writes a whole one.
func (b table) tape(name string, kind int, list ...api.Rec) {
	b.Helper()
	w := b.write(name, kind)
	b.put(w, list...)
	b.is("Close", w.Close(), api.OK)
}

func (b table) read(name string, kind int) *tape.Reader {
	b.Helper()
	r, e := b.Read(name, kind)
	if e != api.OK || r == nil {
		b.Fatalf("Read(%q, %d): %d", name, kind, e)
	}
	return r
}

func (b table) back(name string, kind int) *tape.Reader {
	b.Helper()
	r, e := b.Back(name, kind)
	if e != api.OK || r == nil {
		b.Fatalf("Back(%q, %d): %d", name, kind, e)
	}
	return r
}

// rest takes what a reader still gives, and closes it.
func (b table) rest(r *tape.Reader) []api.Rec {
	b.Helper()
	var list []api.Rec
	for {
		x, some, e := r.Next()
		b.is("Next", e, api.OK)
		if !some {
			break
		}
		list = append(list, x)
	}
	b.is("Close", r.Close(), api.OK)
	return list
}

// lie puts a sealed file of these blocks on the disk, by hand.
func (b table) lie(name string, blocks ...[]byte) {
	b.Helper()
	b.is("Create", b.d.Create(name), api.OK)
	for _, x := range blocks {
		b.is("Append", b.d.Append(name, x), api.OK)
	}
	b.is("Seal", b.d.Seal(name), api.OK)
}

// off lets the power of the disk go: the next numbered call must be the one that the setup's cut is for.
func (b table) off() {
	b.Helper()
	b.is("the cut", b.d.Create("cut"), api.ErrOff)
}

func (b table) same(what string, got, want []api.Rec) {
	b.Helper()
	if !slices.Equal(got, want) {
		b.Fatalf("%s: %v, want %v", what, got, want)
	}
}

// given is what a call of Next or Peek has answered.
type given struct {
	r    api.Rec
	some bool
	e    api.Errno
}

func give(r api.Rec, some bool, e api.Errno) given { return given{r, some, e} }

// none is what a reader answers behind its end, no what it answers at a refusal.
var none = given{}

func no(e api.Errno) given { return given{e: e} }

func one(r api.Rec) given { return given{r, true, api.OK} }

func (b table) gives(what string, got, want given) {
	b.Helper()
	if got != want {
		b.Fatalf("%s: %v, want %v", what, got, want)
	}
}

// rec is a record of which each word is unlike.
func rec(n int) api.Rec {
	x := uint64(n)
	return api.Rec{x, x<<32 | 7, ^x, x * 0x9E3779B97F4A7C15}
}

// list is the records from, from + 1, .. of which there are n.
func list(from, n int) []api.Rec {
	var out []api.Rec
	for i := range n {
		out = append(out, rec(from+i))
	}
	return out
}

func turned(l []api.Rec) []api.Rec {
	l = slices.Clone(l)
	slices.Reverse(l)
	return l
}

// block is a block as DOC.md says, written by other means than those of the program.
func block(size, kind, place int, l []api.Rec) []byte {
	b := append([]byte("STRA"), 1, byte(kind))
	b = binary.LittleEndian.AppendUint16(b, uint16(len(l)))
	b = binary.LittleEndian.AppendUint64(b, uint64(place))
	b = append(b, make([]byte, 12)...)
	for _, r := range l {
		for _, w := range r {
			b = binary.LittleEndian.AppendUint64(b, w)
		}
	}
	b = append(b, make([]byte, size-4-len(b))...)
	return sum(b)
}

// sum puts the sum of bytes behind them.
func sum(b []byte) []byte { return binary.LittleEndian.AppendUint32(b, crc32.ChecksumIEEE(b)) }

// blocks is a tape as its blocks.
func blocks(size, kind int, l []api.Rec) [][]byte {
	var out [][]byte
	for part := range slices.Chunk(l, size/32-1) {
		out = append(out, block(size, kind, len(out), part))
	}
	return out
}
