package tape_test

import (
	"bytes"
	"fmt"
	"reflect"
	"testing"

	"strata/api"
	"strata/disk"
	"strata/purse"
	"strata/tape"
)

// dice gives numbers that are the same in each run.
type dice uint64

func (r *dice) below(n int) int {
	*r = *r*6364136223846793005 + 1442695040888963407
	return int(uint64(*r)>>33) % n
}

// step is a call, with all that any call may be given.
type step struct {
	call    string
	desk    int
	object  int // which of the writers or readers, of those that were made
	name    string
	names   []string
	kind    int
	rec     api.Rec
	place   int
	n       int
	content []byte
}

// stage is the program and the model, side by side: two desks of one purse and one of another, over one disk.
type stage struct {
	*testing.T
	d, md   *disk.Disk
	p       [2]*purse.Purse
	mp      [2]*modelPurse
	k       [3]*tape.Desk
	mk      [3]*modelDesk
	writers []*tape.Writer
	readers []*tape.Reader
	mw, mr  []*modelTape
	taken   [2]int // by hand
	met     map[string]int
}

func setStage(t *testing.T, s api.Setup, records int, met map[string]int) *stage {
	t.Helper()
	x := &stage{T: t, met: met}
	x.d, _ = disk.New(s)
	x.md, _ = disk.New(s)
	for i := range x.p {
		x.p[i], _ = purse.New(records)
		x.mp[i] = &modelPurse{limit: records}
	}
	for i := range x.k {
		x.k[i], _ = tape.NewDesk(x.d, x.p[i/2])
		x.mk[i] = &modelDesk{d: x.md, p: x.mp[i/2]}
	}
	return x
}

// do takes a step on both sides and holds them against one another.
func (x *stage) do(s step) {
	x.Helper()
	got, want, e := x.both(s)
	if got != want {
		x.Fatalf("%+v\nanswers %s, want %s", s, got, want)
	}
	x.met[fmt.Sprint(s.call, " ", e)]++
	if x.d.Counts() != x.md.Counts() {
		x.Fatalf("%+v\nthe disk has counted %+v, want %+v", s, x.d.Counts(), x.md.Counts())
	}
	if !reflect.DeepEqual(x.d.State(), x.md.State()) {
		x.Fatalf("%+v\nthe disk holds %v, want %v", s, x.d.State(), x.md.State())
	}
	for i, p := range x.p {
		if m := x.mp[i]; p.Used() != m.used || p.Peak() != m.peak {
			x.Fatalf("%+v\nof purse %d: %d out, peak %d, want %d, %d", s, i, p.Used(), p.Peak(), m.used, m.peak)
		}
	}
}

func (x *stage) both(s step) (got, want string, e api.Errno) {
	x.Helper()
	switch s.call {
	case "Put", "Count", "CloseWriter", "Drop":
		if len(x.writers) == 0 {
			return
		}
		i := s.object % len(x.writers)
		return writerStep(s, x.writers[i], x.mw[i])
	case "Next", "Peek", "CloseReader":
		if len(x.readers) == 0 {
			return
		}
		i := s.object % len(x.readers)
		return readerStep(s, x.readers[i], x.mr[i])
	case "Write":
		w, e := x.k[s.desk].Write(s.name, s.kind)
		m, me := x.mk[s.desk].Write(s.name, s.kind)
		if w != nil && m != nil {
			x.writers, x.mw = append(x.writers, w), append(x.mw, m)
		}
		return fmt.Sprint(w != nil, e), fmt.Sprint(m != nil, me), me
	case "Read", "Back":
		make := x.k[s.desk].Read
		if s.call == "Back" {
			make = x.k[s.desk].Back
		}
		r, e := make(s.name, s.kind)
		m, me := x.mk[s.desk].open(s.name, s.kind, s.call == "Back")
		if r != nil && m != nil {
			x.readers, x.mr = append(x.readers, r), append(x.mr, m)
		}
		return fmt.Sprint(r != nil, e), fmt.Sprint(m != nil, me), me
	case "Take", "Give":
		return x.hand(s)
	case "create", "append", "seal", "delete", "spoil":
		e := world(s, x.d)
		return fmt.Sprint(e), fmt.Sprint(world(s, x.md)), e
	}
	return deskStep(s, x.k[s.desk], x.mk[s.desk])
}

// hand takes records out of a purse by hand, or gives all of those back.
func (x *stage) hand(s step) (got, want string, e api.Errno) {
	i := s.desk / 2
	if s.call == "Give" {
		x.mp[i].used -= x.taken[i]
		e = x.p[i].Give(x.taken[i])
		x.taken[i] = 0
		return fmt.Sprint(e), fmt.Sprint(api.OK), e
	}
	e = x.p[i].Take(s.n)
	if x.mp[i].take(s.n) {
		x.taken[i] += s.n
		return fmt.Sprint(e), fmt.Sprint(api.OK), e
	}
	return fmt.Sprint(e), fmt.Sprint(api.ErrBudget), e
}

func writerStep(s step, w *tape.Writer, m *modelTape) (got, want string, e api.Errno) {
	var g api.Errno
	switch s.call {
	case "Put":
		g, e = w.Put(s.rec), m.Put(s.rec)
	case "CloseWriter":
		g, e = w.Close(), m.CloseWriter()
	case "Drop":
		g, e = w.Drop(), m.Drop()
	}
	return fmt.Sprint(g, w.Count()), fmt.Sprint(e, m.count), e
}

func readerStep(s step, r *tape.Reader, m *modelTape) (got, want string, e api.Errno) {
	switch s.call {
	case "Next":
		x := m.look(true)
		return fmt.Sprint(give(r.Next())), fmt.Sprint(x), x.e
	case "Peek":
		x := m.look(false)
		return fmt.Sprint(give(r.Peek())), fmt.Sprint(x), x.e
	}
	g := r.Close()
	e = m.CloseReader()
	return fmt.Sprint(g), fmt.Sprint(e), e
}

func deskStep(s step, k *tape.Desk, m *modelDesk) (got, want string, e api.Errno) {
	switch s.call {
	case "Temp":
		return k.Temp(), m.Temp(), api.OK
	case "Sweep":
		g := k.Sweep(s.name)
		e = m.Sweep(s.name)
		return fmt.Sprint(g), fmt.Sprint(e), e
	case "Ready":
		in, out := s.names[:s.n], s.names[s.n:]
		g := k.Ready(in, out)
		e = m.Ready(in, out)
		return fmt.Sprint(g), fmt.Sprint(e), e
	case "Last":
		x := m.Last(s.name, s.kind)
		return fmt.Sprint(give(k.Last(s.name, s.kind))), fmt.Sprint(x), x.e
	case "Size":
		n, g := k.Size(s.name, s.kind)
		w, e := m.Size(s.name, s.kind)
		return fmt.Sprint(n, g), fmt.Sprint(w, e), e
	}
	var l []given
	for r, e := range k.All(s.name, s.kind) {
		if l = append(l, given{r, false, e}); len(l) == s.n {
			break
		}
	}
	w := m.All(s.name, s.kind, s.n)
	if n := len(w); n > 0 {
		e = w[n-1].e
	}
	return fmt.Sprint(l), fmt.Sprint(w), e
}

// world is what somebody else does to a disk.
func world(s step, d *disk.Disk) api.Errno {
	switch s.call {
	case "create":
		return d.Create(s.name)
	case "append":
		return d.Append(s.name, s.content)
	case "seal":
		return d.Seal(s.name)
	case "delete":
		return d.Delete(s.name)
	}
	return d.Spoil(s.name, s.place, s.n)
}

var calls = []string{
	"Put", "Put", "Put", "Put", "Put", "Put", "Put", "Put", "CloseWriter", "CloseWriter", "Drop", "Count",
	"Next", "Next", "Next", "Next", "Next", "Peek", "Peek", "CloseReader", "CloseReader",
	"Write", "Write", "Write", "Write", "Read", "Read", "Read", "Back", "Back", "Back",
	"Temp", "Sweep", "Ready", "Last", "Size", "All", "All", "Take", "Give", "Give",
	"create", "append", "append", "seal", "delete", "spoil",
}

func (r *dice) step(size int, named bool) step {
	names := []string{"a", "b", "c", "tmp-1", "a", "b", "", "A"}
	if named { // by somebody else, to names that are right
		names = names[:3]
	}
	s := step{
		call:   calls[r.below(len(calls))],
		desk:   r.below(3),
		object: r.below(1 << 20),
		name:   names[r.below(len(names))],
		kind:   []int{1, 1, 1, 1, 1, 2, 2, 5, 0, 6}[r.below(10)],
		rec:    rec(r.below(1 << 30)),
		place:  r.below(3),
		n:      r.below(4),
	}
	switch s.call {
	case "Put", "Next", "Peek":
		if r.below(3) > 0 {
			s.object = -1
		}
	case "Sweep":
		s.name = []string{"tmp-", "tmp-1", "a", "", "b"}[r.below(5)]
	case "Ready":
		for range s.n + r.below(4) {
			s.names = append(s.names, names[r.below(len(names))])
		}
	case "append":
		s.content = r.content(size)
	case "spoil":
		s.n = r.below(8 * size)
	}
	return s
}

// content is a block: a right one at some place, or one that is none though its sum fits.
func (r *dice) content(size int) []byte {
	b := block(size, 1+r.below(2), r.below(3), list(r.below(99), 1+r.below(size/32-1)))
	if r.below(4) == 0 {
		b[r.below(size-4)] ^= byte(1 + r.below(255))
		b = sum(b[:size-4])
	}
	return bytes.Clone(b)
}

func (r *dice) troubles(size int) []api.Trouble {
	var l []api.Trouble
	for range r.below(5) {
		l = append(l, api.Trouble{At: r.below(90), Kind: api.TrFault})
	}
	if r.below(3) == 0 {
		l = append(l, api.Trouble{At: r.below(120), Kind: api.TrCut, Bytes: r.below(size+20) - 9})
	}
	return l
}

// TestScripts: any calls, in any order, by anybody. P4.1 to P4.18.
func TestScripts(t *testing.T) {
	met := map[string]int{}
	for seed := range 5000 {
		r := dice(seed)
		r.below(2)
		size := []int{64, 96, 128}[r.below(3)]
		k := size/32 - 1
		s := api.Setup{Block: size, Blocks: 3 + r.below(30), Troubles: r.troubles(size)}
		x := setStage(t, s, k*(1+r.below(4))+r.below(k+1), met)
		steps := 60 + r.below(150)
		for range steps {
			step := r.step(size, r.below(4) > 0)
			if step.object < 0 { // most calls are of the newest object
				step.object = max(len(x.writers), 1) - 1
				if step.call != "Put" {
					step.object = max(len(x.readers), 1) - 1
				}
			}
			x.do(step)
		}
	}
	for _, want := range mustMeet {
		if met[want] < 5 {
			t.Errorf("%q was met %d times only", want, met[want])
		}
	}
}

// mustMeet are the calls with what they answer, by number: scripts that do not meet these try less than they say.
var mustMeet = []string{
	"Put 0", "Put 6", "Put 9", "Put 10", "Put 12", "Put 14", "Put 17",
	"CloseWriter 0", "CloseWriter 6", "CloseWriter 9", "CloseWriter 10", "CloseWriter 12", "CloseWriter 14", "CloseWriter 17",
	"Drop 0", "Drop 6", "Drop 10", "Drop 12",
	"Write 0", "Write 1", "Write 2", "Write 9", "Write 10", "Write 11", "Write 13",
	"Read 0", "Read 1", "Read 2", "Read 10", "Read 11", "Read 12", "Read 15",
	"Back 0", "Back 1", "Back 2", "Back 10", "Back 11", "Back 12", "Back 15",
	"Next 0", "Next 6", "Next 9", "Next 10", "Next 12", "Next 15", "Next 16", "Next 30", "Next 31", "Next 32",
	"Peek 0", "Peek 6", "Peek 9", "Peek 10", "Peek 12", "Peek 30", "Peek 31", "Peek 32",
	"CloseReader 0", "CloseReader 6",
	"Temp 0", "Sweep 0", "Sweep 10", "Ready 0", "Ready 10", "Ready 11", "Ready 12", "Ready 13", "Ready 15",
	"Last 0", "Last 1", "Last 2", "Last 10", "Last 11", "Last 12", "Last 15", "Last 30", "Last 31", "Last 32",
	"Size 0", "Size 1", "Size 2", "Size 10", "Size 11", "Size 12", "Size 15", "Size 30", "Size 31", "Size 32",
	"All 0", "All 1", "All 2", "All 10", "All 11", "All 12", "All 15", "All 30", "All 31", "All 32",
}

// TestTroubleAtEachCall: one script, and whatever may befall each of its calls. G6.
func TestTroubleAtEachCall(t *testing.T) {
	const size = 96 // K is 2
	met := map[string]int{}
	script := func(s api.Setup) int {
		x := setStage(t, s, 6, met)
		put := func(object, n int) {
			for i := range n {
				x.do(step{call: "Put", object: object, rec: rec(i)})
			}
		}
		x.do(step{call: "Write", name: "a", kind: 1})
		x.do(step{call: "Write", name: "b", kind: 2, desk: 2})
		put(0, 4)
		put(1, 3)
		x.do(step{call: "CloseWriter", object: 1})
		put(0, 1)
		x.do(step{call: "CloseWriter", object: 0})
		x.do(step{call: "Write", name: "c", kind: 3})
		put(2, 3)
		x.do(step{call: "Drop", object: 2})
		x.do(step{call: "Read", name: "a", kind: 1})
		x.do(step{call: "Back", name: "a", kind: 1, desk: 1})
		for i := range 12 {
			x.do(step{call: "Next", object: i % 2})
			x.do(step{call: "Peek", object: (i / 2) % 2})
		}
		x.do(step{call: "CloseReader", object: 0})
		x.do(step{call: "CloseReader", object: 1})
		x.do(step{call: "Last", name: "b", kind: 2, desk: 2})
		x.do(step{call: "Size", name: "b", kind: 2, desk: 2})
		x.do(step{call: "All", name: "a", kind: 1})
		for i := range 3 {
			x.do(step{call: "CloseWriter", object: i})
			x.do(step{call: "Drop", object: i})
		}
		x.do(step{call: "Sweep"})
		for i, p := range x.p {
			if p.Used() != 0 {
				t.Fatalf("%+v: %d records of purse %d are out at the end", s, p.Used(), i)
			}
		}
		return x.d.Counts().Calls
	}
	n := script(api.Setup{Block: size, Blocks: 99})
	if n < 20 {
		t.Fatalf("the script makes %d calls", n)
	}
	for at := range n {
		script(api.Setup{Block: size, Blocks: 99, Troubles: []api.Trouble{{At: at, Kind: api.TrFault}}})
		for _, bytes := range []int{-1, 0, 1, 17, 95, 96, 1 << 40} {
			script(api.Setup{Block: size, Blocks: 99, Troubles: []api.Trouble{{At: at, Kind: api.TrCut, Bytes: bytes}}})
		}
	}
	for room := range 9 {
		script(api.Setup{Block: size, Blocks: room})
	}
}
