package tally_test

import (
	"math/big"
	"slices"
	"testing"

	"strata/api"
	"strata/bench"
	"strata/tally"
)

// TestExamples: the chapter's table, row by row, over three levels.
func TestExamples(t *testing.T) {
	deep := bench.At(2, 0)
	f := []api.Rec{
		{uint64(deep), uint64(F), uint64(T), 0},
		{uint64(bench.At(1, 0)), uint64(deep), uint64(T), 0},
		{uint64(bench.At(0, 0)), uint64(deep), uint64(bench.At(1, 0)), 0},
		bench.End(3, 0, 3),
	}
	table := bench.TableOf(3, func(x int) bool { return bench.Bit(3, x, 0) && bench.Bit(3, x, 1) || bench.Bit(3, x, 2) })
	if !slices.Equal(f, bench.Canon(3, table)) {
		t.Fatal("the file is not that of the function")
	}
	yes, no := []api.Rec{bench.End(3, T, 0)}, []api.Rec{bench.End(3, F, 0)}
	b := bench.Lie(t, 2, strip("f", f), strip("yes", yes), strip("no", no), strip("one", below(1080, big.NewInt(1))))
	x := facts{n: 3, count: big.NewInt(5), paths: big.NewInt(3), density: 0.625, support: []int{0, 1, 2}, first: []bool{false, false, true}, cubes: []string{"0-1", "101", "11-"}}
	for _, c := range []struct {
		turns []int
		sum   complex128
	}{{[]int{0, 0, 0}, 5}, {[]int{2, 2, 2}, 1}, {[]int{1, 0, 0}, 2 + 3i}, {[]int{-3, 0, 0}, 2 + 3i}} {
		x.turns, x.sum = c.turns, c.sum
		x.tells(b, "f")
	}
	if z, e := tally.Amplitude(b.Desk, "f", []int{0, 0}); z != 0 || e != api.ErrArg {
		t.Errorf("two turns: %v, %d", z, e)
	}
	if l, e := tally.First(b.Desk, "no"); l != nil || e != api.ErrLeaf {
		t.Errorf("First of false: %v, %d", l, e)
	}
	facts{n: 3, count: new(big.Int), paths: new(big.Int)}.tells(b, "no")
	facts{n: 3, count: big.NewInt(8), paths: big.NewInt(1), density: 1, first: make([]bool, 3), cubes: []string{"---"}}.tells(b, "yes")
	if y, e := tally.Density(b.Desk, "one"); y != 0 || e != api.OK {
		t.Errorf("Density of one assignment over 1080 levels: %v, %d", y, e)
	}
}
