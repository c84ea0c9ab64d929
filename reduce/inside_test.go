package reduce

import (
	"testing"

	"strata/api"
	"strata/disk"
	"strata/purse"
	"strata/tape"
)

// TestSharesAreTheWholePurse: all that is free is dealt out, what is in hand is counted as the queues are; and all of it is given back. G10.
func TestSharesAreTheWholePurse(t *testing.T) {
	for _, k := range []int{1, 2, 100, 2047} {
		for _, more := range []int{0, 1, 3, 1000} {
			d, _ := disk.New(api.Setup{Block: 32 * (k + 1), Blocks: 9})
			p, _ := purse.New(api.LeastK*k + more)
			desk, _ := tape.NewDesk(d, p)
			end := api.Rec{api.Mark, 1, uint64(api.True), 0}
			for name, kind := range map[string]int{"a.i": api.KindInner, "a.o": api.KindOuter} {
				w, _ := desk.Write(name, kind)
				w.Put(end)
				w.Close()
			}
			c := &climb{desk: desk, end: api.Info{Vars: 1, Root: api.True}}
			if e := c.open("a.i", "a.o", "out"); e != api.OK || p.Free() != 0 {
				t.Errorf("K %d: open: %d, %d are free", k, e, p.Free())
			}
			c.shut()
			if p.Used() != 0 || len(d.Names()) != 2 {
				t.Errorf("K %d: %d are out, the disk holds %v", k, p.Used(), d.Names())
			}
		}
	}
}

// TestKeys: what waits comes from the deepest level up, within a level from the last node on, side 1 ahead of side 0; and it comes back as it was.
func TestKeys(t *testing.T) {
	all := []api.Ptr{api.MaxVars<<40 - 1, (api.MaxVars - 1) << 40, 3<<40 + 1, 3 << 40, 1<<40 + api.MaxId, 1 << 40, api.MaxId, 1, 0}
	last := uint64(0)
	for _, p := range all {
		for _, side := range []uint64{1, 0} {
			key := newsKey(p, side)
			if key <= last || parentOf(api.Rec{key}) != p {
				t.Errorf("%d, side %d: %d, of %d", p, side, key, parentOf(api.Rec{key}))
			}
			last = key
		}
	}
	for i, p := range all {
		if rec := fateRecord(p, api.True); selfOf(rec) != p || rec[1] != uint64(api.True) || i > 0 && rec[0] <= fateRecord(all[i-1], 0)[0] {
			t.Errorf("%d: %v", p, rec)
		}
	}
}
