package turn_test

import (
	"slices"
	"testing"

	"strata/api"
	"strata/bench"
	"strata/nodes"
	"strata/tally"
	"strata/turn"
)

// maker makes files of files, and tells their names.
type maker struct{ bench.Maker }

func (m maker) swap(f string, levels ...int) string {
	m.Helper()
	for _, l := range levels {
		f = m.Make(func(out string) api.Errno { return turn.Swap(m.Desk, f, l, out) })
	}
	return f
}

func (m maker) reorder(f string, from []int) string {
	m.Helper()
	return m.Make(func(out string) api.Errno { return turn.Reorder(m.Desk, []string{f}, from, []string{out}) })
}

// sum is how many nodes files have together, as their ends say.
func (m maker) sum(files ...string) int {
	m.Helper()
	n := 0
	for _, f := range files {
		end, e := nodes.Look(m.Desk, f)
		m.Is(f, e, api.OK)
		n += end.Nodes
	}
	return n
}

func (m maker) support(f string) []int {
	m.Helper()
	list, e := tally.Support(m.Desk, f)
	m.Is(f, e, api.OK)
	return list
}

// each makes a maker with a group over n levels, for unlike ones.
func each(t *testing.T, do func(r *bench.Dice, n int, g group, m maker)) {
	t.Helper()
	r := bench.Dice(40)
	for n := 1; n < 7; n++ {
		for k := 1; k < 4; k++ {
			g := anyGroup(&r, n)
			do(&r, n, g, maker{bench.NewMaker(bench.Lie(t, k, g.tapes()...))})
		}
	}
}

// TestSwapsFollow, file by file. P12.5.
func TestSwapsFollow(t *testing.T) {
	t.Parallel()
	each(t, func(r *bench.Dice, n int, g group, m maker) {
		for _, f := range g.files() {
			for a := range n - 1 {
				once := m.swap(f, a)
				m.Is(once, nodes.Check(m.Desk, once), api.OK)
				m.Same([]any{"twice", a}, m.swap(once, a), f)
				for b := range a - 1 {
					m.Same([]any{"apart", a, b}, m.swap(f, a, b), m.swap(f, b, a))
				}
				if a+2 < n {
					m.Same([]any{"in turn", a}, m.swap(f, a, a+1, a), m.swap(f, a+1, a, a+1))
				}
			}
		}
	})
}

// TestReordersFollow, file by file. P12.6.
func TestReordersFollow(t *testing.T) {
	t.Parallel()
	each(t, func(r *bench.Dice, n int, g group, m maker) {
		for _, f := range g.files() {
			from, to := r.Some(n, n), r.Some(n, n)
			var both []int
			for _, x := range to {
				both = append(both, from[x])
			}
			once := m.reorder(f, from)
			m.Is(once, nodes.Check(m.Desk, once), api.OK)
			m.Same([]any{from, to}, m.reorder(once, to), m.reorder(f, both))
			m.Same([]any{from, "and back"}, m.reorder(once, turned(from)), f)
			m.Same("as it is", m.reorder(f, upTo(n)), f)
			for l := range n - 1 {
				m.Same([]any{"Swap and Reorder", l}, m.swap(f, l), m.reorder(f, neighbours(n, l)))
			}
		}
	})
}

// TestCountsFollow: Swap and Reorder keep how many assignments make a function true. P11.8, W9.
func TestCountsFollow(t *testing.T) {
	each(t, func(r *bench.Dice, n int, g group, m maker) {
		want, e := tally.Count(m.Desk, "f")
		m.Is("Count", e, api.OK)
		for _, f := range []string{m.reorder("f", r.Some(n, n)), m.swap("f", upTo(n-1)...)} {
			if got, e := tally.Count(m.Desk, f); e != api.OK || got.Cmp(want) != 0 {
				t.Fatalf("%v, %d, want %v", got, e, want)
			}
		}
	})
}

// TestCostsFollow: at its own place a level costs what there is; each other number is that of the files reordered so; Best never makes more nodes. P12.3, P12.4, P12.7.
func TestCostsFollow(t *testing.T) {
	t.Parallel()
	each(t, func(r *bench.Dice, n int, g group, m maker) {
		files := g.files()
		is := m.sum(files...)
		for l := range n {
			list, e := turn.Cost(m.Desk, files, l)
			m.Is("Cost", e, api.OK)
			if len(list) != n || list[l] != is {
				t.Fatalf("Cost(%d) = %v, where there are %d nodes", l, list, is)
			}
			p := r.Below(n)
			var outs []string
			for _, f := range files {
				outs = append(outs, m.reorder(f, move(n, l, p)))
			}
			if got := m.sum(outs...); list[p] != got {
				t.Fatalf("Cost(%d) = %v, at %d there are %d nodes", l, list, p, got)
			}
		}
		order, e := turn.Best(m.Desk, files)
		m.Is("Best", e, api.OK)
		if !slices.Equal(slices.Sorted(slices.Values(order)), upTo(n)) {
			t.Fatalf("Best: %v", order)
		}
		var outs []string
		for _, f := range files {
			outs = append(outs, m.reorder(f, order))
		}
		if got := m.sum(outs...); got > is {
			t.Fatalf("Best: %v makes %d nodes of %d", order, got, is)
		}
	})
}

// TestWhatItHangsOnIsMoved: Support of Swap's answer has the two levels changed; a file that hangs on neither stays the same. P12.8.
func TestWhatItHangsOnIsMoved(t *testing.T) {
	t.Parallel()
	still := 0
	each(t, func(r *bench.Dice, n int, g group, m maker) {
		for _, f := range g.files() {
			levels := m.support(f)
			for l := range n - 1 {
				out := m.swap(f, l)
				var want []int
				for _, level := range levels {
					want = append(want, neighbours(n, l)[level])
				}
				slices.Sort(want)
				if got := m.support(out); !slices.Equal(got, want) {
					t.Fatalf("Swap(%d) of what hangs on %v hangs on %v", l, levels, got)
				}
				if slices.Contains(levels, l) || slices.Contains(levels, l+1) {
					continue
				}
				still++
				m.Same([]any{"neither", l}, out, f)
				if same, e := nodes.Equal(m.Desk, out, f); !same || e != api.OK {
					t.Fatalf("Equal: %v, %d", same, e)
				}
			}
		}
	})
	if still < 50 {
		t.Errorf("%d such files", still)
	}
}
