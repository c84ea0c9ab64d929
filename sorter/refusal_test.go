package sorter_test

import (
	"math"
	"reflect"
	"strings"
	"testing"

	"strata/api"
	"strata/recs"
	"strata/sorter"
	"strata/tape"
)

// choice is a value that a call is given, and what it is refused with for that.
type choice[T any] struct {
	v T
	e api.Errno
}

// first is the first of these that is a refusal.
func first(list ...api.Errno) api.Errno {
	for _, e := range list {
		if e != api.OK {
			return e
		}
	}
	return api.OK
}

// TestRefusalsInOrder: whatever is wrong together, the first of them is told. K is 2. P5.1, P5.2, G5, G7.
func TestRefusalsInOrder(t *testing.T) {
	was := holds(t, 96, api.KindRaw, firsts(1, 2, 3), nil)
	long := strings.Repeat("a", api.MaxName+1)
	kinds := []choice[int]{{1, 0}, {0, api.ErrArg}, {6, api.ErrArg}, {-1, api.ErrArg}, {math.MaxInt, api.ErrArg}, {math.MinInt, api.ErrArg}, {255, api.ErrArg}}
	orders := []choice[api.Order]{{plain, 0}, {api.Order{0, 1, 2, 2}, api.ErrOrder}, {api.Order{0, 1, 2, 4}, api.ErrOrder}, {api.Order{-1, 1, 2, 3}, api.ErrOrder}, {api.Order{}, api.ErrOrder}}
	shares := []choice[int]{{8, 0}, {7, api.ErrShare}, {0, api.ErrShare}, {-8, api.ErrShare}, {math.MinInt, api.ErrShare}}
	outs := []choice[string]{{"out", 0}, {"A", api.ErrName}, {"", api.ErrName}, {long, api.ErrName}, {"in0", api.ErrExists}, {"open", api.ErrExists}}
	ins := []choice[[]string]{
		{[]string{"in0"}, 0}, {[]string{"in1"}, 0}, {[]string{"A"}, api.ErrName}, {[]string{""}, api.ErrName}, {[]string{long}, api.ErrName}, {[]string{"none"}, api.ErrNoFile}, {[]string{"out"}, api.ErrNoFile}, {[]string{"open"}, api.ErrOpen},
		{nil, 0}, {[]string{"in0", "in1", "in0"}, 0}, {[]string{"in0", "none", "A", "open"}, api.ErrNoFile}, {[]string{"in0", "open", "A", "none"}, api.ErrOpen}, {[]string{"in0", "A", "open", "none"}, api.ErrName}, {[]string{"in1", "in0", "in0", "in0", "in0", "in0", "none"}, api.ErrNoFile},
	}
	tries := 0
	for _, free := range []choice[int]{{8, 0}, {7, api.ErrBudget}, {0, api.ErrBudget}} {
		for _, power := range []choice[bool]{{true, 0}, {false, api.ErrOff}} {
			b := mount(t, was, free.v, api.Trouble{At: 0, Kind: api.TrCut})
			if !power.v {
				b.Disk().Create("cut")
			}
			for _, kind := range kinds {
				for _, order := range orders {
					for _, share := range shares {
						for _, out := range outs {
							for _, in := range ins {
								want := first(power.e, kind.e, order.e, share.e, out.e, in.e, free.e)
								for _, c := range []call{{true, in.v, out.v, kind.v, order.v, false, share.v}, {false, in.v, out.v, kind.v, order.v, true, share.v}} {
									if !c.merge && len(in.v) != 1 || want == api.OK {
										continue
									}
									tries++
									calls := b.Disk().Counts()
									if e := c.do(b.Desk); e != want {
										t.Fatalf("%+v, %d free, power %v: %d, want %d", c, free.v, power.v, e, want)
									}
									if e := c.do(nil); e != api.ErrArg {
										t.Fatalf("%+v at no desk: %d", c, e)
									}
									if b.Disk().Counts() != calls {
										t.Fatalf("%+v, refused, has asked the disk for something", c)
									}
								}
							}
						}
					}
				}
			}
			b.asBefore(free)
		}
	}
	if tries < 10000 {
		t.Errorf("%d tries", tries)
	}
}

func TestLeastShare(t *testing.T) { // P5.1: 4K, and one less
	for _, size := range []int{64, 96, 128, 65536} {
		k := size/32 - 1
		was := holds(t, size, api.KindRaw, firsts(2, 1), firsts(1))
		for _, merge := range []bool{false, true} {
			b := mount(t, was, 9*k)
			c := call{merge, inputs(1), "out", api.KindRaw, plain, false, 4*k - 1}
			if merge {
				c.in = []string{"in1"}
			}
			if e := c.do(b.Desk); e != api.ErrShare {
				t.Errorf("%+v: %d", c, e)
			}
			b.asBefore(c)
			c.share++
			if e := c.do(b.Desk); e != api.OK {
				t.Errorf("%+v: %d", c, e)
			}
		}
	}
}

func TestBudget(t *testing.T) { // P5.1, step 4: the share, not LeastK * K; of a closed part nothing is free
	was := holds(t, 96, api.KindRaw, firsts(2, 1), firsts(1))
	for _, merge := range []bool{false, true} {
		for share := 8; share < 30; share++ {
			for free := share - 2; free < share+2; free++ {
				c := call{merge, []string{"in1"}, "out", api.KindRaw, plain, false, share}
				b := mount(t, was, free)
				e := c.do(b.Desk)
				if free < share {
					if e != api.ErrBudget {
						t.Fatalf("%+v, %d free: %d", c, free, e)
					}
					b.asBefore(c)
					continue
				}
				if e != api.OK {
					t.Fatalf("%+v, %d free: %d", c, free, e)
				}
				b.made(c, "out", api.KindRaw, firsts(1))
				if b.Purse().Peak() != b.hand+share {
					t.Fatalf("%+v: peak %d", c, b.Purse().Peak())
				}
			}
		}
		b := mount(t, was, 90)
		part, _ := b.Purse().Part(80)
		k, _ := tape.NewDesk(b.Disk(), part)
		part.Close()
		if e := (call{merge, []string{"in1"}, "out", api.KindRaw, plain, false, 8}).do(k); e != api.ErrBudget {
			t.Errorf("at a closed part: %d", e)
		}
		b.asBefore("a closed part")
	}
}

func TestAPartIsAPurse(t *testing.T) { // P5.5: a desk over a part, all of which is the share
	b := mount(t, holds(t, 64, api.KindRaw, firsts(9, 8, 7, 6, 5, 4, 3, 2, 1, 0)), 20)
	part, _ := b.Purse().Part(4)
	k, _ := tape.NewDesk(b.Disk(), part)
	if e := sorter.Sort(k, "in0", "out", api.KindRaw, plain, false, 4); e != api.OK {
		t.Fatalf("Sort: %d", e)
	}
	if part.Used() != 0 || part.Peak() != 4 || b.Purse().Peak() != b.hand+4 {
		t.Errorf("%d out, peak %d, peak of the whole %d", part.Used(), part.Peak(), b.Purse().Peak())
	}
	if e := part.Close(); e != api.OK {
		t.Errorf("Close: %d", e)
	}
	b.made("a part", "out", api.KindRaw, firsts(0, 1, 2, 3, 4, 5, 6, 7, 8, 9))
}

// wrong is a state whose tape in0 has something else as its block i.
func wrong(was api.State, i int, block []byte) api.State {
	st := api.State{Block: was.Block}
	for _, f := range was.Files {
		g := api.File{Name: f.Name, Sealed: f.Sealed}
		for _, b := range f.Blocks {
			g.Blocks = append(g.Blocks, append([]byte(nil), b...))
		}
		if f.Name == "in0" {
			g.Blocks[i] = block
		}
		st.Files = append(st.Files, g)
	}
	return st
}

// TestBlocksThatAreNone: one wrong block, at each place of a short tape and of a long one. P5.1, P5.2, step 6.
func TestBlocksThatAreNone(t *testing.T) {
	const size = 96 // K is 2
	for _, n := range []int{4, 30} {
		var list []api.Rec
		for i := range n {
			list = append(list, api.Rec{uint64(i)})
		}
		was := holds(t, size, api.KindRaw, list, firsts(1, 2), firsts(0))
		for i := range n / 2 {
			two := list[2*i : 2*i+2]
			kind, _ := recs.Encode(api.KindNodes, i, two, size)
			place, _ := recs.Encode(api.KindRaw, i+1, two, size)
			short, _ := recs.Encode(api.KindRaw, i, two[:1], size)
			spoilt, _ := recs.Encode(api.KindRaw, i, two, size)
			spoilt[40] ^= 4
			none := append([]byte(nil), kind[:size-4]...)
			none[0] = 'X'
			sum := recs.Sum(none)
			none = append(none, byte(sum), byte(sum>>8), byte(sum>>16), byte(sum>>24))
			for _, x := range []choice[[]byte]{{kind, api.ErrKind}, {place, api.ErrKind}, {short, api.ErrForm}, {spoilt, api.ErrSpoilt}, {none, api.ErrForm}, {make([]byte, size), api.ErrSpoilt}} {
				st := wrong(was, i, x.v)
				for _, c := range []call{
					{false, []string{"in0"}, "out", api.KindRaw, plain, false, 8},
					{false, []string{"in0"}, "out", api.KindRaw, plain, true, 8},
					{true, []string{"in0"}, "out", api.KindRaw, plain, false, 8},
					{true, []string{"in1", "in2", "in1", "in2", "in0"}, "out", api.KindRaw, plain, true, 8},
				} {
					b := mount(t, st, 8)
					want := x.e
					if want == api.ErrForm && reflect.DeepEqual(x.v, short) && i == n/2-1 {
						want = api.OK // the last block may be short
					}
					if e := c.do(b.Desk); e != want {
						t.Fatalf("block %d of %d: %+v: %d, want %d", i, n/2, c, e, want)
					}
					if want != api.OK {
						b.asBefore(c)
					}
				}
			}
		}
	}
}

// TestTurnedBits: each bit of each block of a tape. G8, W8.
func TestTurnedBits(t *testing.T) {
	const size = 64
	was := holds(t, size, api.KindRaw, firsts(1, 2, 3, 4, 5), firsts(2))
	for i := range 5 {
		for bit := range 8 * size {
			for _, c := range []call{{false, []string{"in0"}, "out", api.KindRaw, plain, false, 4}, {true, []string{"in1", "in0"}, "out", api.KindRaw, plain, false, 4}} {
				b := mount(t, was, 4)
				b.Disk().Spoil("in0", i, bit)
				b.was = b.Disk().State()
				if e := c.do(b.Desk); e != api.ErrSpoilt {
					t.Fatalf("block %d, bit %d: %+v: %d", i, bit, c, e)
				}
				b.asBefore(c)
			}
		}
	}
}

func TestTemporariesHaveNamesOfTheirOwn(t *testing.T) { // 'Temporary': no name that a file has, none that the desk has given away
	list := firsts(9, 3, 7, 1, 8, 2, 6, 4, 5, 0, 11, 10)
	want := model(plain, false, list)
	for given := range 12 {
		was := holds(t, 64, api.KindRaw, list, firsts(1), firsts(2), firsts(3), firsts(4), firsts(5))
		b := mount(t, was, 4)
		var out string
		for range given + 1 {
			out = b.Temp()
		}
		if e := sorter.Sort(b.Desk, "in0", out, api.KindRaw, plain, false, 4); e != api.OK {
			t.Fatalf("into %q: %d", out, e)
		}
		b.made(out, out, api.KindRaw, want)
		b = mount(t, was, 4)
		for range given + 1 {
			out = b.Temp()
		}
		if e := sorter.Merge(b.Desk, inputs(6)[1:], out, api.KindRaw, plain, false, 4); e != api.OK {
			t.Fatalf("into %q: %d", out, e)
		}
		b.made(out, out, api.KindRaw, firsts(1, 2, 3, 4, 5))
	}
	// Each file that a sort makes beside its own is a temporary, and no name is one that was given away.
	was := holds(t, 64, api.KindRaw, list)
	for at := range 60 {
		b := mount(t, was, 4, api.Trouble{At: at, Kind: api.TrCut, Bytes: 1})
		mine := b.Temp()
		if e := sorter.Sort(b.Desk, "in0", "out", api.KindRaw, plain, false, 4); e != api.ErrOff {
			t.Fatalf("cut at %d: %d", at, e)
		}
		there := names(was)
		for _, f := range b.Disk().State().Files {
			if !strings.Contains(there, f.Name+" (") && f.Name != "out" && !strings.HasPrefix(f.Name, "tmp-") || f.Name == mine {
				t.Fatalf("cut at %d: there is a file %q", at, f.Name)
			}
		}
	}
}

func TestNilAndOff(t *testing.T) { // G7, step 1
	if e := sorter.Sort(nil, "", "", 0, api.Order{}, false, 0); e != api.ErrArg {
		t.Errorf("Sort at no desk: %d", e)
	}
	if e := sorter.Merge(nil, nil, "", 0, api.Order{}, false, 0); e != api.ErrArg {
		t.Errorf("Merge at no desk: %d", e)
	}
	b := mount(t, holds(t, 64, api.KindRaw, nil), 4, api.Trouble{Kind: api.TrCut})
	b.Disk().Create("cut")
	if e := sorter.Sort(b.Desk, "", "", 0, api.Order{}, false, 0); e != api.ErrOff {
		t.Errorf("Sort without power: %d", e)
	}
	if e := sorter.Merge(b.Desk, nil, "", 0, api.Order{}, false, 0); e != api.ErrOff {
		t.Errorf("Merge without power: %d", e)
	}
	b.asBefore("no power")
}
