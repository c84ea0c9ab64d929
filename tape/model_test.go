package tape_test

import (
	"bytes"
	"encoding/binary"
	"strconv"
	"strings"

	"strata/api"
	"strata/disk"
)

// The model: what the chapter says of each call, over a disk of its own that is asked call by call, with blocks that are written and read by other means, and a purse of three numbers.

type modelPurse struct{ limit, used, peak int }

func (p *modelPurse) take(n int) bool {
	if p.used+n > p.limit {
		return false
	}
	p.used += n
	p.peak = max(p.peak, p.used)
	return true
}

type modelDesk struct {
	d    *disk.Disk
	p    *modelPurse
	temp int
}

func (m *modelDesk) k() int { return m.d.Block()/32 - 1 }

// modelTape is a writer or a reader.
type modelTape struct {
	*modelDesk
	name   string
	kind   int
	dead   api.Errno
	closed bool
	list   []api.Rec // kept by a writer; what is left of a block of a reader

	placed, count int // of a writer
	n, i, step    int // of a reader: blocks, the next block's place, where it goes from there
}

func isName(s string) bool {
	return len(s) >= 1 && len(s) <= 32 && strings.Trim(s, "abcdefghijklmnopqrstuvwxyz0123456789-.") == ""
}

// find is a file of the disk, and whether it is there.
func (m *modelDesk) find(name string) (api.File, bool) {
	for _, f := range m.d.State().Files {
		if f.Name == name {
			return f, true
		}
	}
	return api.File{}, false
}

func (m *modelDesk) Temp() string {
	for {
		name := "tmp-" + strconv.Itoa(m.temp+1)
		m.temp++
		if _, there := m.find(name); !there || !m.d.On() {
			return name
		}
	}
}

func (m *modelDesk) Sweep(prefix string) api.Errno {
	if !m.d.On() {
		return api.ErrOff
	}
	for _, f := range m.d.State().Files {
		if strings.HasPrefix(f.Name, prefix) && m.d.Delete(f.Name) == api.ErrOff {
			return api.ErrOff
		}
	}
	return api.OK
}

func (m *modelDesk) Ready(in, out []string) api.Errno {
	if !m.d.On() {
		return api.ErrOff
	}
	for i, name := range out {
		if !isName(name) {
			return api.ErrName
		}
		if _, there := m.find(name); there {
			return api.ErrExists
		}
		for _, ahead := range out[:i] {
			if ahead == name {
				return api.ErrExists
			}
		}
	}
	for _, name := range in {
		if !isName(name) {
			return api.ErrName
		}
		if f, there := m.find(name); !there {
			return api.ErrNoFile
		} else if !f.Sealed {
			return api.ErrOpen
		}
	}
	return api.OK
}

func (m *modelDesk) Write(name string, kind int) (*modelTape, api.Errno) {
	if kind < 1 || kind > 5 {
		return nil, api.ErrArg
	}
	if e := m.Ready(nil, []string{name}); e != api.OK {
		return nil, e
	}
	if !m.p.take(m.k()) {
		return nil, api.ErrBudget
	}
	if e := m.d.Create(name); e != api.OK {
		m.p.used -= m.k()
		return nil, e
	}
	return &modelTape{modelDesk: m, name: name, kind: kind}, api.OK
}

func (m *modelDesk) open(name string, kind int, back bool) (*modelTape, api.Errno) {
	if kind < 1 || kind > 5 {
		return nil, api.ErrArg
	}
	if e := m.Ready([]string{name}, nil); e != api.OK {
		return nil, e
	}
	if !m.p.take(m.k()) {
		return nil, api.ErrBudget
	}
	f, _ := m.find(name)
	t := &modelTape{modelDesk: m, name: name, kind: kind, n: len(f.Blocks), step: 1}
	if back {
		t.i, t.step = t.n-1, -1
	}
	return t, api.OK
}

func (t *modelTape) end() {
	t.closed = true
	t.p.used -= t.k()
}

func (t *modelTape) Put(r api.Rec) api.Errno {
	if t.closed {
		return api.ErrDone
	}
	if t.dead != api.OK {
		return t.dead
	}
	if len(t.list)+1 == t.k() {
		e := t.d.Append(t.name, block(t.d.Block(), t.kind, t.placed, append(t.list[:len(t.list):len(t.list)], r)))
		if e == api.ErrOff || e == api.ErrFault || e == api.ErrFull {
			t.dead = e
		}
		if e != api.OK {
			return e
		}
		t.placed++
		t.list = nil
	} else {
		t.list = append(t.list, r)
	}
	t.count++
	return api.OK
}

func (t *modelTape) CloseWriter() api.Errno {
	if t.closed {
		return api.ErrDone
	}
	t.end()
	if t.dead != api.OK {
		return t.dead
	}
	if len(t.list) > 0 {
		if e := t.d.Append(t.name, block(t.d.Block(), t.kind, t.placed, t.list)); e != api.OK {
			return e
		}
	}
	return t.d.Seal(t.name)
}

func (t *modelTape) Drop() api.Errno {
	if t.closed {
		return api.ErrDone
	}
	t.end()
	return t.d.Delete(t.name)
}

// fetch reads a block and its records; dead: whether a refusal kills.
func (t *modelTape) fetch() (l []api.Rec, e api.Errno, dead bool) {
	b, e := t.d.Read(t.name, t.i)
	if e != api.OK {
		return nil, e, e == api.ErrOff || e == api.ErrFault
	}
	if !bytes.Equal(sum(bytes.Clone(b[:len(b)-4])), b) {
		return nil, api.ErrSpoilt, true
	}
	count := int(binary.LittleEndian.Uint16(b[6:]))
	if count == 0 || count > t.k() || b[5] == 0 {
		return nil, api.ErrForm, true
	}
	for i := range count {
		var r api.Rec
		for j := range r {
			r[j] = binary.LittleEndian.Uint64(b[28+32*i+8*j:])
		}
		l = append(l, r)
	}
	kind, place := int(b[5]), binary.LittleEndian.Uint64(b[8:])
	if !bytes.Equal(block(len(b), kind, int(place), l), b) {
		return nil, api.ErrForm, true
	}
	if kind != t.kind || place != uint64(t.i) {
		return nil, api.ErrKind, true
	}
	if count < t.k() && t.i < t.n-1 {
		return nil, api.ErrForm, true
	}
	return l, api.OK, false
}

func (t *modelTape) look(take bool) given {
	if t.closed {
		return no(api.ErrDone)
	}
	if t.dead != api.OK {
		return no(t.dead)
	}
	if len(t.list) == 0 && t.i >= 0 && t.i < t.n {
		l, e, dead := t.fetch()
		if e != api.OK {
			if dead {
				t.dead = e
			}
			return no(e)
		}
		t.list = l
		t.i += t.step
	}
	if len(t.list) == 0 {
		return none
	}
	at := 0
	if t.step < 0 {
		at = len(t.list) - 1
	}
	r := t.list[at]
	if take {
		t.list = append(append([]api.Rec(nil), t.list[:at]...), t.list[at+1:]...)
	}
	return one(r)
}

func (t *modelTape) CloseReader() api.Errno {
	if t.closed {
		return api.ErrDone
	}
	t.end()
	return api.OK
}

func (m *modelDesk) Last(name string, kind int) given {
	t, e := m.open(name, kind, true)
	if e != api.OK {
		return no(e)
	}
	defer t.end()
	return t.look(true)
}

func (m *modelDesk) Size(name string, kind int) (int, api.Errno) {
	t, e := m.open(name, kind, true)
	if e != api.OK {
		return 0, e
	}
	defer t.end()
	if x := t.look(false); !x.some {
		return 0, x.e
	}
	return (t.n-1)*t.k() + len(t.list), api.OK
}

// All is what is given until stop have been given.
func (m *modelDesk) All(name string, kind, stop int) []given {
	t, e := m.open(name, kind, false)
	if e != api.OK {
		return []given{no(e)}
	}
	defer t.end()
	var out []given
	for {
		x := t.look(true)
		if x == none {
			return out
		}
		out = append(out, given{x.r, false, x.e})
		if !x.some || len(out) == stop {
			return out
		}
	}
}
