package nodes

import (
	"testing"

	"strata/api"
	"strata/disk"
	"strata/purse"
	"strata/tape"
)

// TestAddAtTheGreatestId: no disk holds so many nodes, so the last one is set by hand. P7.2.
func TestAddAtTheGreatestId(t *testing.T) {
	d, _ := disk.New(api.Setup{Block: 64, Blocks: 9})
	p, _ := purse.New(1)
	k, _ := tape.NewDesk(d, p)
	b, _ := Begin(k, "a", 3)
	b.Add(2, api.False, api.True)
	b.last.Self = 2<<40 + api.MaxId - 1
	full := api.Ptr(2<<40 + api.MaxId)
	for _, c := range []struct {
		level     int
		low, high api.Ptr
		p         api.Ptr
		e         api.Errno
	}{
		{2, api.True, api.False, full, api.OK},
		{2, api.True, api.False, 0, api.ErrNode}, // a fault of the node is told ahead of the number
		{2, api.True, api.True, 0, api.ErrNode},
		{3, api.False, api.True, 0, api.ErrLevel},
	} {
		if p, e := b.Add(c.level, c.low, c.high); p != c.p || e != c.e {
			t.Errorf("Add(%d, %d, %d): %d, %d, want %d, %d", c.level, c.low, c.high, p, e, c.p, c.e)
		}
	}
	b.last.Low, b.last.High = api.False, api.True
	for range 2 {
		if p, e := b.Add(2, api.True, api.False); p != 0 || e != api.ErrMany {
			t.Errorf("one more than there may be: %d, %d", p, e)
		}
	}
	if p, e := b.Add(1, api.False, full); p != 1<<40 || e != api.OK {
		t.Errorf("the next level: %d, %d", p, e)
	}
}
