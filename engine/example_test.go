package engine_test

import (
	"slices"
	"testing"

	"strata/api"
	"strata/bench"
	"strata/disk"
	"strata/engine"
)

const (
	F = uint64(api.False)
	T = uint64(api.True)
)

func node(level, id int) uint64 { return uint64(bench.At(level, id)) }

// holds fails the test unless a handle's file has just these records.
func (r *rig) holds(f int, want ...api.Rec) {
	r.Helper()
	name, e := r.e.File(f)
	if e != api.OK {
		r.Fatalf("File(%d): %d", f, e)
	}
	b := bench.Mount(r.T, r.d.State(), 0)
	if got := b.Records(name, api.KindNodes); !slices.Equal(got, want) {
		r.Fatalf("handle %d: %v, want %v", f, got, want)
	}
}

func end(n int, root, c uint64) api.Rec { return api.Rec{api.Mark, uint64(n), root, c} }

// TestTheChaptersExamples: its table, one call behind the other.
func TestTheChaptersExamples(t *testing.T) {
	r := begin(t, 2, room, api.Options{Vars: 3, Budget: 1000, Ids: 1 << 40})
	r.is(text("x0 & x1 | x2"), said(1))
	r.is(variable(1), said(2))
	r.is(constant(false), said(3))
	r.is(apply(api.OpAnd, 1, 3), said(4))
	r.is(equal(3, 4), said(true))
	r.is(apply(16, 9, 9), refused(api.ErrHandle))
	r.is(apply(16, 1, 1), refused(api.ErrOp))
	r.is(cube(api.Lit{Level: 1, Value: true}, api.Lit{Level: 1}), refused(api.ErrLevel))
	r.is(exists(1, 0, 0), refused(api.ErrLevel))
	r.is(exists(1, 0), said(5))
	r.is(text("x1 | x2"), said(6))
	r.is(equal(5, 6), said(true))
	r.is(free(6), refused(api.OK))
	r.is(rename(1, 0, 0, 2), refused(api.ErrLevel))
	r.is(rename(2, 5, 1, 2), refused(api.ErrLevel))
	r.is(rename(2, 2, 2, 2), said(7))
	r.is(support(7), said([]int{2}))
	r.is(copyOf(1), said(8))
	was, _ := r.e.File(1)
	r.is(free(1), refused(api.OK))
	if name, e := r.e.File(8); name != was || e != api.OK {
		t.Errorf("File(8): %q, %d, want %q", name, e, was)
	}
	r.is(free(1), refused(api.ErrHandle))
	r.is(swap(0), refused(api.OK))
	if got := r.e.Order(); !slices.Equal(got, []int{1, 0, 2}) {
		t.Errorf("Order %v", got)
	}
	r.is(swap(2), refused(api.ErrLevel))
	r.is(reorder(0, 1), refused(api.ErrPerm))
	r.is(count(8), said(5))
	r.is(first(8), said([]bool{false, false, true}))
}

// TestTheWholesExamples: those of DOC.md, with the least disk and budget. Examples 1 to 5, 8 and 9.
func TestTheWholesExamples(t *testing.T) {
	r := begin(t, 1, room, api.Options{Vars: 2, Budget: 64, Ids: 9})
	r.is(text("x0 & x1"), said(1))
	and := []api.Rec{{node(1, 0), F, T}, {node(0, 0), F, node(1, 0)}, end(2, node(0, 0), 2)}
	r.holds(1, and...)
	r.is(text("x0 ^ x1"), said(2))
	r.holds(2, api.Rec{node(1, 0), F, T}, api.Rec{node(1, 1), T, F}, api.Rec{node(0, 0), node(1, 0), node(1, 1)}, end(2, node(0, 0), 3))
	r.is(text("x0 | !x0"), said(3))
	r.holds(3, end(2, T, 0))
	r.is(count(3), said(4))
	r.is(apply(api.OpXor, 2, 2), said(4))
	r.holds(4, end(2, F, 0))
	r.is(swap(0), refused(api.OK))
	if got := r.e.Order(); !slices.Equal(got, []int{1, 0}) {
		t.Errorf("Order %v", got)
	}
	r.holds(1, and...)
	narrow := begin(t, 1, room, api.Options{Vars: 2, Budget: 64, Ids: 1})
	narrow.is(text("x0 & x1"), said(1))
	narrow.is(text("x0 ^ x1"), refused(api.ErrIds))
	d, _ := disk.New(api.Setup{Block: 64, Blocks: 100})
	if e, no := engine.Open(d, api.Options{Vars: 2, Budget: 63, Ids: 1}); e != nil || no != api.ErrArg {
		t.Errorf("Budget 63: %d", no)
	}
}

// TestTheSealsExample: the power cut at the Seal of a new catalog. Examples 6 and 7.
func TestTheSealsExample(t *testing.T) {
	calm := begin(t, 1, room, options(2, 1))
	calls := calm.d.Counts().Calls
	calm.is(constant(true), said(1))
	seal := calm.d.Counts().Calls - 2 // the last call deletes the catalog ahead
	r := begin(t, 1, room, options(2, 1), api.Trouble{At: calls, Kind: api.TrFault})
	r.is(text("x0"), refused(api.ErrFault))
	for bytes, want := range map[int]int{-1: 0, 0: 0, 1: 1, 64: 1} {
		r := begin(t, 1, room, options(2, 1), api.Trouble{At: seal, Kind: api.TrCut, Bytes: bytes})
		ahead := r.m.clone()
		r.is(constant(true), refused(api.ErrOff))
		r.recovers(ahead, r.m)
		if got := len(r.e.Handles()); got != want {
			t.Errorf("Bytes %d: %d handles", bytes, got)
		}
	}
}
