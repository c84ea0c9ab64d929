package disk_test

import (
	"bytes"
	"fmt"
	"math"
	"slices"
	"strings"
	"testing"

	"strata/api"
	"strata/disk"
)

// dice gives numbers that are the same in each run.
type dice uint64

func (r *dice) below(n int) int {
	*r = *r*6364136223846793005 + 1442695040888963407
	return int(uint64(*r)>>33) % n
}

// step is a call of a disk, with its arguments.
type step struct {
	call  int
	name  string
	block []byte
	i     int
	bit   int
}

const (
	callCreate = iota
	callAppend
	callSeal
	callRead
	callDelete
	callLength
	callSpoil
)

func randomStep(r *dice) step {
	names := []string{"a", "b", "a-", "a", "b", "c0.", "A", "", strings.Repeat("x", 33)}
	places := []int{0, 1, 0, 1, 2, -1, math.MaxInt, math.MinInt}
	bits := []int{0, 1, 511, 7, 256, 512, -1, math.MaxInt, math.MinInt}
	lengths := []int{64, 64, 64, 64, 64, 63, 65, 0}
	block := make([]byte, lengths[r.below(len(lengths))])
	for i := range block {
		block[i] = byte(1 + r.below(255))
	}
	kinds := []int{callCreate, callAppend, callAppend, callAppend, callSeal, callRead, callRead, callDelete, callLength, callSpoil}
	return step{
		call:  kinds[r.below(len(kinds))],
		name:  names[r.below(len(names))],
		block: block,
		i:     places[r.below(len(places))],
		bit:   bits[r.below(len(bits))],
	}
}

func randomTroubles(r *dice, upTo int) []api.Trouble {
	var list []api.Trouble
	for range r.below(6) {
		list = append(list, fault(r.below(upTo)))
	}
	for range r.below(3) {
		list = append(list, api.Trouble{At: r.below(upTo), Kind: r.below(5) - 1, Bytes: r.below(70) - 3})
	}
	return list
}

// do makes the call; the whole of its answer as a text.
func do(d *disk.Disk, s step) (string, api.Errno) {
	switch s.call {
	case callCreate:
		return "", d.Create(s.name)
	case callAppend:
		return "", d.Append(s.name, s.block)
	case callSeal:
		return "", d.Seal(s.name)
	case callRead:
		b, e := d.Read(s.name, s.i)
		return fmt.Sprintf("%x", b), e
	case callDelete:
		return "", d.Delete(s.name)
	case callLength:
		n, sealed, e := d.Length(s.name)
		return fmt.Sprint(n, sealed), e
	}
	return "", d.Spoil(s.name, s.i, s.bit)
}

// model is the chapter over again, by a list of files and nothing counted ahead.
type model struct {
	setup  api.Setup
	files  []api.File
	off    bool
	counts api.Counts
}

func (m *model) place(name string) int {
	return slices.IndexFunc(m.files, func(f api.File) bool { return f.Name == name })
}

func (m *model) used() int {
	n := 0
	for _, f := range m.files {
		n += len(f.Blocks)
	}
	return n
}

// refusal is what refuses a step ahead of its number.
func (m *model) refusal(s step) api.Errno {
	if m.off && s.call != callSpoil {
		return api.ErrOff
	}
	if len(s.name) == 0 || len(s.name) > 32 || strings.Trim(s.name, "abcdefghijklmnopqrstuvwxyz0123456789-.") != "" {
		return api.ErrName
	}
	p := m.place(s.name)
	if s.call == callCreate {
		if p >= 0 {
			return api.ErrExists
		}
		return api.OK
	}
	if p < 0 {
		return api.ErrNoFile
	}
	f := m.files[p]
	noBlock := s.i < 0 || s.i >= len(f.Blocks)
	switch {
	case (s.call == callAppend || s.call == callSeal) && f.Sealed:
		return api.ErrSealed
	case s.call == callAppend && len(s.block) != 64:
		return api.ErrBlock
	case s.call == callAppend && m.used() >= m.setup.Blocks:
		return api.ErrFull
	case s.call == callRead && !f.Sealed:
		return api.ErrOpen
	case s.call == callRead && noBlock:
		return api.ErrBlock
	case s.call == callSpoil && (noBlock || s.bit < 0 || s.bit > 511):
		return api.ErrBlock
	}
	return api.OK
}

// change does what a step does, with so many bytes of its block.
func (m *model) change(s step, n int) {
	p := m.place(s.name)
	switch s.call {
	case callCreate:
		m.files = append(m.files, api.File{Name: s.name})
		slices.SortFunc(m.files, func(a, b api.File) int { return strings.Compare(a.Name, b.Name) })
	case callAppend:
		b := bytes.Clone(s.block)
		clear(b[min(n, 64):])
		m.files[p].Blocks = append(m.files[p].Blocks, b)
	case callSeal:
		m.files[p].Sealed = true
	case callDelete:
		m.files = slices.Delete(m.files, p, p+1)
	case callSpoil:
		m.files[p].Blocks[s.i][s.bit/8] ^= 1 << (s.bit % 8)
	}
	m.counts.Used = m.used()
	m.counts.Most = max(m.counts.Most, m.counts.Used)
}

// befalls is what befalls the call of the next number, and gives that number away.
func (m *model) befalls() api.Trouble {
	at := m.counts.Calls
	m.counts.Calls++
	for _, t := range m.setup.Troubles {
		if t.At == at && (t.Kind == api.TrFault || t.Kind == api.TrCut) {
			return t
		}
	}
	return api.Trouble{}
}

func (m *model) do(s step) (string, api.Errno) {
	nothing := map[int]string{callLength: "0 false"}[s.call]
	if e := m.refusal(s); e != api.OK {
		if e == api.ErrFull {
			m.counts.Full++
		}
		return nothing, e
	}
	if s.call == callLength {
		f := m.files[m.place(s.name)]
		return fmt.Sprint(len(f.Blocks), f.Sealed), api.OK
	}
	if s.call == callSpoil {
		m.change(s, 64)
		return "", api.OK
	}
	t := m.befalls()
	if t.Kind == api.TrFault && s.call != callDelete {
		m.counts.Faults++
		return nothing, api.ErrFault
	}
	if t.Kind == api.TrCut {
		m.off = true
		if t.Bytes > 0 {
			m.change(s, t.Bytes)
		}
		return nothing, api.ErrOff
	}
	m.change(s, 64)
	switch s.call {
	case callAppend:
		m.counts.Appends++
	case callRead:
		m.counts.Reads++
		return fmt.Sprintf("%x", m.files[m.place(s.name)].Blocks[s.i]), api.OK
	}
	return "", api.OK
}

func (m *model) names() []string {
	if m.off {
		return nil
	}
	var list []string
	for _, f := range m.files {
		list = append(list, f.Name)
	}
	return list
}

// differs tells whether a disk is not what its model is.
func (m *model) differs(d *disk.Disk) bool {
	return d.On() == m.off || d.Counts() != m.counts || !slices.Equal(d.Names(), m.names()) || !sameState(d.State(), api.State{Block: 64, Files: m.files})
}

// TestModel: P1.3 to P1.11, by scripts of any calls under any troubles.
func TestModel(t *testing.T) {
	for seed := range 3000 {
		r := dice(seed)
		m := &model{setup: small(r.below(6), randomTroubles(&r, 60)...)}
		d := newDisk(t, m.setup)
		for n := range 80 {
			s := randomStep(&r)
			text, e := do(d, s)
			if wantText, wantE := m.do(s); text != wantText || e != wantE || m.differs(d) {
				t.Fatalf("script %d, step %d: %+v: %q, %d, want %q, %d; %+v, %+v", seed, n, s, text, e, wantText, wantE, d.Counts(), m.counts)
			}
		}
	}
}

// TestRefusedChangesNothingP1_13: of all refusals but ErrOff; and the counts change just as P1.10 says.
func TestRefusedChangesNothingP1_13(t *testing.T) {
	seen := map[api.Errno]int{}
	for seed := range 500 {
		r := dice(seed + 7000)
		d := newDisk(t, small(r.below(5), randomTroubles(&r, 60)...))
		for range 80 {
			s := randomStep(&r)
			st, counts, on := d.State(), d.Counts(), d.On()
			_, e := do(d, s)
			if e == api.OK || e == api.ErrOff {
				continue
			}
			seen[e]++
			switch e {
			case api.ErrFault:
				counts.Calls++
				counts.Faults++
			case api.ErrFull:
				counts.Full++
			}
			if !sameState(d.State(), st) || d.Counts() != counts || d.On() != on {
				t.Fatalf("script %d: %+v is refused with %d and changes something", seed, s, e)
			}
		}
	}
	for _, e := range []api.Errno{api.ErrFault, api.ErrName, api.ErrNoFile, api.ErrExists, api.ErrSealed, api.ErrOpen, api.ErrBlock, api.ErrFull} {
		if seen[e] == 0 {
			t.Errorf("no script met %d", e)
		}
	}
}

// TestMountedGoesOnP1_12: behind any script, with the power on or off, faults met or none.
func TestMountedGoesOnP1_12(t *testing.T) {
	const last = 20 // no trouble is left behind so many numbered calls
	on, off := 0, 0
	for seed := range 900 {
		r := dice(seed + 90000)
		troubles := [][]api.Trouble{
			nil,
			{cut(r.below(last), r.below(70)-3)},
			{fault(r.below(last)), fault(r.below(last))},
		}[seed%3]
		d := newDisk(t, small(500, troubles...))
		for range 5 + r.below(60) {
			do(d, randomStep(&r))
		}
		m := mount(t, d.State(), small(1000))
		if !m.On() || !sameState(m.State(), d.State()) {
			t.Fatalf("script %d: mounted: %v, want %v", seed, m.State(), d.State())
		}
		if !d.On() {
			off++
			continue
		}
		if troubles == nil || d.Counts().Calls >= last {
			on++
			goOnAlike(t, seed, r, d, m)
		}
	}
	if on == 0 || off == 0 {
		t.Errorf("scripts with the power on: %d, off: %d", on, off)
	}
}

func goOnAlike(t *testing.T, seed int, r dice, a, b *disk.Disk) {
	t.Helper()
	for range 60 {
		s := randomStep(&r)
		textA, eA := do(a, s)
		textB, eB := do(b, s)
		if textA != textB || eA != eB || !sameState(a.State(), b.State()) || !slices.Equal(a.Names(), b.Names()) || a.Counts().Used != b.Counts().Used || a.On() != b.On() || a.Block() != b.Block() {
			t.Fatalf("script %d: %+v: %q, %d and %q, %d", seed, s, textA, eA, textB, eB)
		}
	}
}

// TestSameAgain: G2, a script answers the same each time.
func TestSameAgain(t *testing.T) {
	run := func() string {
		var all strings.Builder
		r := dice(11)
		d := newDisk(t, small(20, fault(9), fault(17)))
		for range 300 {
			text, e := do(d, randomStep(&r))
			fmt.Fprintln(&all, text, e, d.State(), d.Names(), d.Counts())
		}
		return all.String()
	}
	first := run()
	for range 5 {
		if run() != first {
			t.Fatal("the same script answers otherwise")
		}
	}
}
