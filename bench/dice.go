package bench

import "strata/api"

// Dice give numbers that are the same in each run.
type Dice uint64

// Below is a number from 0 to ahead of n.
func (r *Dice) Below(n int) int {
	*r = *r*6364136223846793005 + 1442695040888963407
	return int(uint64(*r)>>33) % n
}

// Table is a function over n levels: its truth at each assignment, level 0 the highest bit of its number.
func (r *Dice) Table(n int) []bool {
	return TableOf(n, func(int) bool { return r.Below(2) == 1 })
}

// Thin is a function over n levels that hangs on few of them.
func (r *Dice) Thin(n int) []bool {
	mask, truths := r.Below(1<<n)&r.Below(1<<n), r.Table(n)
	return TableOf(n, func(x int) bool { return truths[x&mask] })
}

// Some are so many of the numbers up to ahead of n, in any order.
func (r *Dice) Some(n, many int) []int {
	all := make([]int, n)
	for i := range all {
		j := r.Below(i + 1)
		all[i], all[j] = all[j], i
	}
	return all[:many:many]
}

// Lits are so many of n levels with truths, in any order.
func (r *Dice) Lits(n, many int) []api.Lit {
	var out []api.Lit
	for _, level := range r.Some(n, many) {
		out = append(out, api.Lit{Level: level, Value: r.Below(2) == 1})
	}
	return out
}
