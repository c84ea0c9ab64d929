package tally_test

import (
	"math/big"
	"slices"
	"strings"
	"testing"

	"strata/api"
	"strata/bench"
	"strata/calc"
	"strata/reduce"
	"strata/sweep"
	"strata/tally"
)

// count is Count of a file.
func count(b bench.Bench, f string) *big.Int {
	b.Helper()
	n, e := tally.Count(b.Desk, f)
	b.Is(f, e, api.OK)
	return n
}

// supports is Support of a file.
func supports(b bench.Bench, f string) []int {
	b.Helper()
	l, e := tally.Support(b.Desk, f)
	b.Is(f, e, api.OK)
	return l
}

// isIn tells whether an assignment is one of those that a text is for.
func isIn(n, x int, text string) bool {
	for l := range n {
		if side := text[l]; side != '-' && (side == '1') != bench.Bit(n, x, l) {
			return false
		}
	}
	return true
}

// TestCubesFollow: they are as many as Paths, hold Count assignments, each that is true just once; the first one is First. P11.8.
func TestCubesFollow(t *testing.T) {
	r := bench.Dice(50)
	for n := range 8 {
		for range 4 {
			table := r.Table(n)
			b := bench.Lie(t, 1, bench.Files(bench.Canon(n, table))...)
			got := all(b, "f", make([]int, n))
			sum := new(big.Int)
			for _, text := range got.cubes {
				sum.Add(sum, new(big.Int).Lsh(big.NewInt(1), uint(strings.Count(text, "-"))))
			}
			if sum.Cmp(got.count) != 0 || got.paths.Cmp(big.NewInt(int64(len(got.cubes)))) != 0 {
				t.Fatalf("%q: count %v, paths %v", got.cubes, got.count, got.paths)
			}
			for x, v := range table {
				in := 0
				for _, text := range got.cubes {
					in += bench.Side(isIn(n, x, text))
				}
				if in != bench.Side(v) {
					t.Fatalf("assignment %d is in %d of %q", x, in, got.cubes)
				}
			}
			if len(got.cubes) > 0 {
				for l, v := range got.first {
					if v != (got.cubes[0][l] == '1') {
						t.Fatalf("First %v, the first text %q", got.first, got.cubes[0])
					}
				}
			}
			if f, _ := new(big.Float).SetInt(got.count).Float64(); got.sum != complex(f, 0) {
				t.Fatalf("turns of 0: %v, count %v", got.sum, got.count)
			}
		}
	}
}

// TestCountsFollow: of the opposite, of the two halves by a level, and with turns that are multiples of 4; by the calls of calc. P11.8.
func TestCountsFollow(t *testing.T) {
	r := bench.Dice(51)
	for range 12 {
		n := 1 + r.Below(6)
		b := bench.Lie(t, 1+r.Below(2), bench.Files(bench.Canon(n, r.Table(n)))...)
		k, f := b.Desk, count(b, "f")
		b.Is("Not", calc.Not(k, "f", "not"), api.OK)
		if sum := new(big.Int).Add(f, count(b, "not")); sum.Cmp(big.NewInt(1<<n)) != 0 {
			t.Fatalf("Count and Count of Not are %v over %d levels", sum, n)
		}
		for l := range n {
			b.Is("Cube", calc.Cube(k, n, []api.Lit{{Level: l, Value: true}}, "x"), api.OK)
			b.Is("And", calc.Apply(k, api.OpAnd, "f", "x", "with"), api.OK)
			b.Is("Diff", calc.Apply(k, api.OpDiff, "f", "x", "without"), api.OK)
			if sum := new(big.Int).Add(count(b, "with"), count(b, "without")); sum.Cmp(f) != 0 {
				t.Fatalf("level %d: the halves have %v, all %v", l, sum, f)
			}
			for _, name := range []string{"x", "with", "without"} {
				k.Disk().Delete(name)
			}
		}
		turns := make([]int, n)
		for l := range turns {
			turns[l] = 4 * (r.Below(100) - 50)
		}
		if z, e := tally.Amplitude(k, "f", turns); e != api.OK || z != complex(float64(f.Int64()), 0) {
			t.Fatalf("turns %v: %v, %d, count %v", turns, z, e, f)
		}
	}
}

// TestOrderIsOnlyOrder: Count, Density, and Amplitude whose turns go along, are the same behind a swap and behind a Rename by a permutation. P11.8, W9.
func TestOrderIsOnlyOrder(t *testing.T) {
	r := bench.Dice(52)
	for range 15 {
		n := 2 + r.Below(5)
		b := bench.Lie(t, 1, bench.Files(bench.Canon(n, r.Table(n)))...)
		k, turns := b.Desk, anyTurns(&r, n)
		was := all(b, "f", turns)
		to := r.Some(n, n)
		moved := make([]int, n)
		for l, goal := range to {
			moved[goal] = turns[l]
		}
		b.Is("Rename", calc.Rename(k, "f", to, "renamed"), api.OK)
		l := r.Below(n - 1)
		swapped := slices.Clone(turns)
		swapped[l], swapped[l+1] = turns[l+1], turns[l]
		b.Is("Swap", sweep.Swap(k, "f", l, "a"), api.OK)
		b.Is("Reduce", reduce.Reduce(k, "a", "swapped"), api.OK)
		for name, turns := range map[string][]int{"renamed": moved, "swapped": swapped} {
			now := all(b, name, turns)
			if now.count.Cmp(was.count) != 0 || now.density != was.density || now.sum != was.sum {
				t.Fatalf("%s: %v, %v, %v, want %v, %v, %v", name, now.count, now.density, now.sum, was.count, was.density, was.sum)
			}
		}
	}
}

// TestSupportFollows: a level that is set, or quantified, is none of it; and none is there that was not. P11.8.
func TestSupportFollows(t *testing.T) {
	r := bench.Dice(53)
	for range 15 {
		n := 1 + r.Below(6)
		b := bench.Lie(t, 1, bench.Files(bench.Canon(n, r.Thin(n)))...)
		k, was := b.Desk, supports(b, "f")
		for l := range n {
			b.Is("Restrict", calc.Restrict(k, "f", []api.Lit{{Level: l, Value: r.Below(2) == 1}}, "set"), api.OK)
			b.Is("Exists", calc.Exists(k, "f", []int{l}, "some"), api.OK)
			b.Is("Forall", calc.Forall(k, "f", []int{l}, "every"), api.OK)
			for _, name := range []string{"set", "some", "every"} {
				for _, level := range supports(b, name) {
					if level == l || !slices.Contains(was, level) {
						t.Fatalf("%s: level %d, where %d was taken of %v", name, level, l, was)
					}
				}
				k.Disk().Delete(name)
			}
		}
	}
}
