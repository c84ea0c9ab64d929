package portable_test

import (
	"testing"

	"strata/api"
	"strata/bench"
	"strata/portable"
	"strata/tape"
)

// deeds are all calls, over a file that is there and one that is not.
func deeds(list []api.Rec) map[string]func(k *tape.Desk) api.Errno {
	out := map[string]func(k *tape.Desk) api.Errno{}
	for _, c := range calls() {
		out[c.what] = func(k *tape.Desk) api.Errno {
			_, e := c.do(k, "f")
			return e
		}
	}
	text := dumpOf(list)
	out["Load"] = func(k *tape.Desk) api.Errno { return portable.Load(k, text, "out").Code }
	return out
}

// TestNoMoreThanThePurse: what a call takes out is within what is free; behind it all is back. G10.
func TestNoMoreThanThePurse(t *testing.T) {
	r := bench.Dice(50)
	const n = 9
	list := bench.Canon(n, r.Table(n))
	for _, k := range []int{1, 2, 9, 100} {
		was := bench.Holds(t, k, bench.Files(list)...)
		for _, free := range []int{64 * k, 64*k + 1, 1000 * k} {
			for what, do := range deeds(list) {
				b := bench.Mount(t, was, free)
				b.Is(what, do(b.Desk), api.OK)
				b.Disk().Delete("out")
				b.AsBefore(what)
				peak := b.Purse().Peak() - b.Hand
				if peak < k || peak > free || what != "Sop" && peak > 2*k {
					t.Errorf("K %d: %s: peak %d of %d", k, what, peak, free)
				}
			}
		}
	}
}

// TestWhatWaitsIsOnTheDisk: a level has many times the nodes that the purse holds, so what waits for all but so many must be on the disk; the other calls put nothing there but the file that they make. G10.
func TestWhatWaitsIsOnTheDisk(t *testing.T) {
	t.Parallel()
	r := bench.Dice(51)
	const n, least = 12, 64
	list := bench.Canon(n, r.Table(n))
	wide := 0
	for l := range n {
		wide = max(wide, bench.Width(list, l))
	}
	if wide < 3*least {
		t.Fatalf("the widest level has %d nodes", wide)
	}
	was := bench.Holds(t, 1, bench.Files(list)...)
	for what, do := range deeds(list) {
		b := bench.Mount(t, was, least)
		b.Is(what, do(b.Desk), api.OK)
		counts := b.Disk().Counts()
		switch most := counts.Most - bench.BlocksIn(was); what {
		case "Sop":
			if most < wide-least {
				t.Errorf("%s: at most %d blocks are used, where %d paths wait", what, most, wide)
			}
		case "Load":
			if counts.Reads > 0 || counts.Appends != len(list) {
				t.Errorf("%s: %+v", what, counts)
			}
		default:
			if counts.Appends > 0 || counts.Reads > len(list)+2 {
				t.Errorf("%s: %+v", what, counts)
			}
		}
	}
}

// TestWithinThePurse: what there is room for is not put on the disk.
func TestWithinThePurse(t *testing.T) {
	r := bench.Dice(52)
	list := bench.Canon(9, r.Table(9))
	was := bench.Holds(t, 1, bench.Files(list)...)
	for _, c := range calls() {
		b := bench.MountSmall(t, was, 1000, 0)
		_, e := c.do(b.Desk, "f")
		b.Is(c.what, e, api.OK)
		b.AsBefore(c.what)
	}
}
