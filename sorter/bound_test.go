package sorter_test

import (
	"math"
	"math/big"
	"testing"

	"strata/sorter"
)

func TestBoundExamples(t *testing.T) { // P5.3
	for _, c := range []struct{ n, perBlock, share, want int }{
		{0, 2, 8, 0}, {4, 2, 8, 2}, {5, 2, 8, 6}, {12, 2, 8, 12}, {13, 2, 8, 21}, {1000, 31, 310, 66}, {10, 2, 7, 0},
		{1, 1, 4, 1}, {2, 1, 4, 2}, {3, 1, 4, 6}, {1, 2047, 8188, 1}, {4094, 2047, 8188, 2}, {4095, 2047, 8188, 6}, {1, 2047, 8187, 0}, {1, 2048, 8192, 0},
		{math.MaxInt, 1, math.MaxInt, math.MaxInt}, {math.MaxInt - 2, 1, math.MaxInt, math.MaxInt - 2}, {math.MaxInt - 1, 1, math.MaxInt, math.MaxInt}, {1 << 62, 1, 4, math.MaxInt}, {math.MaxInt, 2047, math.MaxInt, (math.MaxInt/2047 + 1) * 2}, {math.MinInt, 1, 4, 0}, {1, math.MinInt, 4, 0}, {1, 1, math.MinInt, 0}, {1, math.MaxInt, math.MaxInt, 0},
	} {
		if r, a := sorter.Bound(c.n, c.perBlock, c.share); r != c.want || a != c.want {
			t.Errorf("Bound(%d, %d, %d) = %d, %d, want %d", c.n, c.perBlock, c.share, r, a, c.want)
		}
	}
}

// bound is Bound, by numbers that do not end.
func bound(n, perBlock, share int) int {
	if n <= 0 || perBlock < 1 || perBlock > 2047 || share < 4*perBlock {
		return 0
	}
	num := func(x int) *big.Int { return big.NewInt(int64(x)) }
	up := func(x, y *big.Int) *big.Int { // divided, rounded up
		q, m := new(big.Int).DivMod(x, y, new(big.Int))
		if m.Sign() > 0 {
			q.Add(q, num(1))
		}
		return q
	}
	blocks := new(big.Int).Div(num(share), num(perBlock))
	l := new(big.Int).Mul(new(big.Int).Sub(blocks, num(2)), num(perBlock))
	f := new(big.Int).Sub(blocks, num(1))
	p := 0
	for r := up(num(n), l); r.Cmp(num(1)) > 0; r = up(r, f) {
		p++
	}
	all := new(big.Int).Mul(up(num(n), num(perBlock)), num(1+p))
	if !all.IsInt64() {
		return math.MaxInt
	}
	return int(all.Int64())
}

func TestBoundAtTheEnds(t *testing.T) { // P5.3, G1
	ends := []int{math.MinInt, math.MinInt + 1, -1 << 40, -2, -1, 0, 1, 2, 3, 4, 5, 7, 8, 9, 31, 2046, 2047, 2048, 4094, 8187, 8188, 8189, 1 << 20, 1 << 31, 1<<40 - 1, 1 << 61, 1<<61 + 1, 1<<62 - 1, 1 << 62, 1<<62 + 1, math.MaxInt/3 - 1, math.MaxInt / 3, math.MaxInt/3 + 1, math.MaxInt / 2, math.MaxInt/2 + 1, math.MaxInt - 2, math.MaxInt - 1, math.MaxInt}
	greatest := 0
	for _, n := range ends {
		for _, perBlock := range ends {
			for _, share := range ends {
				want := bound(n, perBlock, share)
				if r, a := sorter.Bound(n, perBlock, share); r != want || a != want {
					t.Fatalf("Bound(%d, %d, %d) = %d, %d, want %d", n, perBlock, share, r, a, want)
				}
				if want == math.MaxInt {
					greatest++
				}
			}
		}
	}
	if greatest < 10 {
		t.Errorf("MaxInt was met %d times", greatest)
	}
	r := dice(4)
	for range 20000 {
		perBlock := 1 + r.below(2047)
		share := 4*perBlock - 2 + r.below(1<<uint(1+r.below(30)))
		n := r.below(1 << uint(1+r.below(30)))
		want := bound(n, perBlock, share)
		if reads, appends := sorter.Bound(n, perBlock, share); reads != want || appends != want {
			t.Fatalf("Bound(%d, %d, %d) = %d, %d, want %d", n, perBlock, share, reads, appends, want)
		}
	}
}

func TestBoundOfOneRun(t *testing.T) { // P5.8: what fits into L is read and written once, one record more is not
	for _, perBlock := range []int{1, 2, 31, 2047} {
		for blocks := 4; blocks < 50; blocks++ {
			l := (blocks - 2) * perBlock
			if r, a := sorter.Bound(l, perBlock, blocks*perBlock); r != blocks-2 || a != blocks-2 {
				t.Errorf("Bound of L: %d, %d", r, a)
			}
			if r, a := sorter.Bound(l+1, perBlock, blocks*perBlock); r != 2*(blocks-1) || a != r {
				t.Errorf("Bound of L + 1: %d, %d", r, a)
			}
			most := l * (blocks - 1) // as many as one pass merges
			if r, _ := sorter.Bound(most, perBlock, blocks*perBlock); r != 2*(most/perBlock) {
				t.Errorf("Bound of F runs: %d", r)
			}
			if r, _ := sorter.Bound(most+1, perBlock, blocks*perBlock); r != 3*(most/perBlock+1) {
				t.Errorf("Bound of one run more: %d", r)
			}
		}
	}
}
