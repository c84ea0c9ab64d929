package sorter

import (
	"math"

	"strata/api"
	"strata/recs"
)

// Bound is how many reads, and how many appends, a sort of n records needs at most.
func Bound(n, perBlock, share int) (int, int) {
	if n <= 0 || perBlock < 1 || perBlock > recs.Fit(api.MaxBlock) || share < api.LeastSort*perBlock {
		return 0, 0
	}
	blocks := share / perBlock
	runs := split(n, (blocks-2)*perBlock)
	passes := 1 // the one that makes the runs
	for runs > 1 {
		runs = split(runs, blocks-1)
		passes++
	}
	tape := split(n, perBlock)
	if tape > math.MaxInt/passes {
		return math.MaxInt, math.MaxInt
	}
	return tape * passes, tape * passes
}

// split is how many parts of at most size n things make. It does not wrap.
func split(n, size int) int {
	parts := n / size
	if n%size > 0 {
		parts++
	}
	return parts
}
