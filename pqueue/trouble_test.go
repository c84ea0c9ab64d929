package pqueue_test

import (
	"slices"
	"testing"

	"strata/api"
	"strata/recs"
)

// plot is a queue and steps at it.
type plot struct {
	what    string
	k       int
	share   int
	steps   []step
	drained bool
}

// all are the steps, with the pops that drain it.
func (p plot) all() []step {
	steps := p.steps
	if p.drained {
		for range steps {
			steps = append(steps[:len(steps):len(steps)], step{kind: pop})
		}
	}
	return steps
}

// plots go through all that a queue may come to.
func plots() []plot {
	var turns []step
	for i := range 22 {
		turns = append(turns, step{push, first(i / 3 * 4)}, step{kind: peek}, step{push, first(100 + i)})
		if i%2 == 0 {
			turns = append(turns, step{kind: pop}, step{push, first(1)})
		}
	}
	return []plot{
		{"in memory", 1, 8, script(1, 3, 9, 9, plain), true},
		{"one run", 1, 8, script(2, 6, 9, 9, plain), true},
		{"merges", 1, 8, script(3, 50, 99, 9, plain), true},
		{"merges, not drained", 1, 9, script(4, 45, 99, 9, plain), false},
		{"turns", 1, 8, turns, true},
		{"blocks of three", 3, 26, script(5, 130, 20, 8, plain), true},
		{"equal records", 2, 16, script(6, 90, 1, 8, plain), true},
	}
}

func (p plot) mount(t *testing.T, troubles ...api.Trouble) *trial {
	t.Helper()
	return mount(t, 32*(p.k+1), p.share, troubles...).queue(plain, p.share)
}

// behind makes steps at a dead queue: each answers the same and asks the disk for nothing. G6.
func (x *trial) behind(steps []step) {
	x.Helper()
	counts := x.Disk().Counts()
	for _, s := range steps[:min(len(steps), 5)] {
		if e := x.do(s); e != x.dead {
			x.Fatalf("%+v at a queue that is dead of %d: %d", s, x.dead, e)
		}
	}
	for _, s := range []step{{push, api.Rec{}}, {push, api.Rec{^uint64(0)}}, {kind: pop}, {kind: peek}} {
		x.do(s)
	}
	if x.Disk().Counts() != counts {
		x.Fatal("a dead queue has asked the disk for something")
	}
}

// play makes the steps until one is refused, tries the dead queue, and closes it. It tells which step that was; len(steps): none.
func (x *trial) play(what any, steps []step) int {
	x.Helper()
	at := len(steps)
	for i, s := range steps {
		if x.do(s); x.dead != api.OK {
			x.behind(steps[i:])
			at = i
			break
		}
	}
	x.stays(what)
	x.close(what)
	return at
}

// calls tells for each step how many numbered calls were made ahead of it, and at the end ahead of Close and behind it.
func (p plot) calls(t *testing.T) []int {
	t.Helper()
	x := p.mount(t)
	var out []int
	for _, s := range p.all() {
		out = append(out, x.Disk().Counts().Calls)
		if x.do(s); x.dead != api.OK {
			t.Fatalf("%s: %d", p.what, x.dead)
		}
	}
	out = append(out, x.Disk().Counts().Calls)
	x.close(p.what)
	return append(out, x.Disk().Counts().Calls)
}

// stepOf is the step in which the call of that number is made.
func stepOf(calls []int, at int) int {
	i, _ := slices.BinarySearchFunc(calls, at, func(ahead, at int) int {
		if ahead <= at {
			return -1
		}
		return 1
	})
	return i - 1
}

// TestTroubleAtEachCall: a fault, or the power off, at each numbered call. The step in which it is made is refused, no other. P6.2 to P6.6, P6.9.
func TestTroubleAtEachCall(t *testing.T) {
	for _, p := range plots() {
		calls := p.calls(t)
		all, steps := calls[len(calls)-1], p.all()
		refused := 0
		for at := range all + 1 {
			mine := min(stepOf(calls, at), len(steps))
			fault := api.Trouble{At: at, Kind: api.TrFault}
			x := p.mount(t, fault)
			switch met := x.play([]any{p.what, fault}, steps); {
			case x.dead == api.OK: // at a Delete
			case x.dead != api.ErrFault || met != mine:
				t.Fatalf("%s: a fault at %d: step %d, %d, want %d", p.what, at, met, x.dead, mine)
			default:
				refused++
			}
			for _, bytes := range []int{-1, 0, 1, 40, 1 << 40} {
				cut := api.Trouble{At: at, Kind: api.TrCut, Bytes: bytes}
				x := p.mount(t, cut)
				if met := x.play([]any{p.what, cut}, steps); met != mine || (x.dead == api.ErrOff) != (met < len(steps)) || x.Disk().On() != (at == all) {
					t.Fatalf("%s: power off at %d: step %d, %d, want %d", p.what, at, met, x.dead, mine)
				}
			}
		}
		if refused < all/2 {
			t.Errorf("%s: %d of %d faults are told", p.what, refused, all)
		}
	}
}

// TestBehindAFault: from the first refusal on nothing is asked but the Deletes of Close, which no fault befalls; where the power goes off in one of them, Close tells so. P6.6, G7.
func TestBehindAFault(t *testing.T) {
	off := 0
	for _, p := range plots() {
		steps := p.all()
		calls := p.calls(t)
		for at := range calls[len(calls)-1] {
			fault := api.Trouble{At: at, Kind: api.TrFault}
			x := p.mount(t, fault)
			if x.play(fault, steps); x.dead != api.ErrFault {
				continue // at a Delete
			}
			end := x.Disk().Counts()
			var all []api.Trouble
			for i := at; i < end.Calls; i++ {
				all = append(all, api.Trouble{At: i, Kind: api.TrFault})
			}
			again := p.mount(t, all...)
			if again.play(all, steps); again.dead != api.ErrFault || again.Disk().Counts() != end || end.Faults != 1 {
				t.Fatalf("%s: faults from %d on: %+v, want %+v", p.what, at, again.Disk().Counts(), end)
			}
			for then := at + 1; then < end.Calls; then++ {
				cut := api.Trouble{At: then, Kind: api.TrCut, Bytes: then % 2}
				x := p.mount(t, fault, cut)
				if x.play([]any{p.what, fault, cut}, steps); x.dead != api.ErrFault || x.Disk().On() {
					t.Fatalf("%s: a fault at %d, power off at %d: %d", p.what, at, then, x.dead)
				}
				off++
			}
		}
	}
	if off == 0 {
		t.Error("the power never went off in a Delete")
	}
}

// TestFullDisk: each number of free blocks from none to enough. P6.2, P6.9.
func TestFullDisk(t *testing.T) {
	for _, p := range plots() {
		calm := p.mount(t)
		calm.play(p.what, p.all())
		most := calm.Disk().Counts().Most - calm.start.Used
		for room := range most + 2 {
			x := mountSmall(t, 32*(p.k+1), p.share, room).queue(plain, p.share)
			x.play([]any{p.what, room}, p.all())
			want := api.OK
			if room < most {
				want = api.ErrFull
			}
			if n := x.Disk().Counts(); x.dead != want || n.Full > 1 {
				t.Fatalf("%s: %d blocks free, %d are enough: %d", p.what, room, most, x.dead)
			}
		}
	}
}

// spoilt is a queue behind the steps, a block of one of its files made another one, bit by bit.
func (p plot) spoilt(t *testing.T, file, i int, block []byte) *trial {
	t.Helper()
	x := p.mount(t)
	x.run(p.steps)
	f := x.own()[file]
	for bit := range 8 * len(block) {
		if (f.Blocks[i][bit/8]^block[bit/8])>>(bit%8)&1 == 0 {
			continue
		}
		if e := x.Disk().Spoil(f.Name, i, bit); e != api.OK {
			t.Fatalf("Spoil: %d", e)
		}
	}
	return x
}

// die drains a queue, or pushes so many records into it ahead of that; each answer is right until one is a refusal.
func (x *trial) die(pushes int) {
	x.Helper()
	for i := range pushes + len(x.list) + pushes {
		s := step{kind: pop}
		if i < pushes {
			s = step{push, api.Rec{1 << 50, uint64(i)}}
		}
		rec, e := s.do(x.Queue)
		if want, f := x.want(s); e == f && rec == want {
			x.accept(s)
			continue
		}
		if rec != (api.Rec{}) || e == api.OK {
			x.Fatalf("%+v: %v, %d", s, rec, e)
		}
		x.dead = e
		return
	}
}

// TestSpoiltBlocks: each block of each temporary, made one that is none; popped, and merged. P6.2, P6.3, P4.17, W8.
func TestSpoiltBlocks(t *testing.T) {
	p := plot{"", 2, 16, script(8, 90, 99, 9, plain), false}
	calm := p.mount(t)
	calm.run(p.steps)
	own := calm.own()
	told := map[api.Errno]int{}
	for file, f := range own {
		for i, b := range f.Blocks {
			list, e := recs.Decode(api.KindRaw, i, b)
			if e != api.OK {
				t.Fatal(e)
			}
			kind, _ := recs.Encode(api.KindNodes, i, list, len(b))
			place, _ := recs.Encode(api.KindRaw, i+1, list, len(b))
			spoilt := slices.Clone(b)
			spoilt[40] ^= 4
			none := slices.Clone(kind[:len(b)-4])
			none[0] = 'X'
			sum := recs.Sum(none)
			none = append(none, byte(sum), byte(sum>>8), byte(sum>>16), byte(sum>>24))
			for _, c := range []choice[[]byte]{{kind, api.ErrKind}, {place, api.ErrKind}, {spoilt, api.ErrSpoilt}, {none, api.ErrForm}} {
				for _, pushes := range []int{0, 100} {
					x := p.spoilt(t, file, i, c.v)
					x.die(pushes)
					if x.dead != api.OK && x.dead != c.e {
						t.Fatalf("block %d of %q: %d, want %d", i, f.Name, x.dead, c.e)
					}
					if x.dead != api.OK {
						told[x.dead]++
						x.look(c.e)
						x.behind(p.steps)
					} else if i > 0 {
						t.Fatalf("block %d of %q, which has not been read, is not told", i, f.Name)
					}
					x.close(c.e)
				}
			}
		}
	}
	if told[api.ErrSpoilt] < 20 || told[api.ErrKind] < 40 || told[api.ErrForm] < 20 {
		t.Errorf("told: %v", told)
	}
}

// TestBlocksWithFewer: a block whose sum fits, with a record less; a call answers, and ends. G1.
func TestBlocksWithFewer(t *testing.T) {
	p := plot{"", 2, 16, script(8, 90, 99, 9, plain), false}
	calm := p.mount(t)
	calm.run(p.steps)
	for file, f := range calm.own() {
		for i, b := range f.Blocks {
			list, _ := recs.Decode(api.KindRaw, i, b)
			less, _ := recs.Encode(api.KindRaw, i, list[1:], len(b))
			for _, pushes := range []int{0, 100} {
				x := p.spoilt(t, file, i, less)
				for n := range pushes {
					x.Push(api.Rec{1 << 50, uint64(n)})
				}
				pops, e := 0, api.OK
				for ; e == api.OK; pops++ {
					if pops > 1000 {
						t.Fatal("it does not end")
					}
					_, e = x.Pop()
				}
				if e != api.ErrForm && e != api.ErrNone {
					t.Errorf("block %d of %q: %d", i, f.Name, e)
				}
				x.close(e)
			}
		}
	}
}

// TestDeletedFiles: somebody has deleted a temporary; a call answers, and ends. G1.
func TestDeletedFiles(t *testing.T) {
	p := plot{"", 2, 16, script(8, 90, 99, 9, plain), false}
	calm := p.mount(t)
	calm.run(p.steps)
	for file := range calm.own() {
		for _, pushes := range []int{0, 100} {
			x := p.mount(t)
			x.run(p.steps)
			x.Disk().Delete(x.own()[file].Name)
			for n := range pushes {
				x.Push(api.Rec{1 << 50, uint64(n)})
			}
			for range x.Len() + 1 {
				x.Pop()
			}
			x.close(file)
		}
	}
}

// TestTheSameCalls: the same steps at the same disk make the same calls. G2.
func TestTheSameCalls(t *testing.T) {
	for _, p := range plots() {
		one := p.calls(t)
		for range 5 {
			if other := p.calls(t); !slices.Equal(one, other) {
				t.Fatalf("%s: other calls", p.what)
			}
		}
	}
}
