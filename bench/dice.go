package bench

import (
	"slices"

	"strata/api"
)

// Dice give numbers that are the same in each run.
type Dice uint64

// Below is a number from 0 to ahead of n.
func (r *Dice) Below(n int) int {
	*r = *r*6364136223846793005 + 1442695040888963407
	return int(uint64(*r)>>33) % n
}

// Table is a function over n levels: its truth at each assignment, level 0 the highest bit of its number.
func (r *Dice) Table(n int) []bool {
	return TableOf(n, func(int) bool { return r.Below(2) == 1 })
}

// Thin is a function over n levels that hangs on few of them.
func (r *Dice) Thin(n int) []bool {
	mask, truths := r.Below(1<<n)&r.Below(1<<n), r.Table(n)
	return TableOf(n, func(x int) bool { return truths[x&mask] })
}

// Some are so many of the numbers up to ahead of n, in any order.
func (r *Dice) Some(n, many int) []int {
	all := make([]int, n)
	for i := range all {
		j := r.Below(i + 1)
		all[i], all[j] = all[j], i
	}
	return all[:many:many]
}

// Lits are so many of n levels with truths, in any order.
func (r *Dice) Lits(n, many int) []api.Lit {
	var out []api.Lit
	for _, level := range r.Some(n, many) {
		out = append(out, api.Lit{Level: level, Value: r.Below(2) == 1})
	}
	return out
}

// Odd is a number that a record may have in the place of others.
func (r *Dice) Odd() uint64 {
	all := [...]uint64{0, 1, 2, 3, node(1, 0), node(1, 1), node(2, 0), node(2, 2), node(3, 0), node(3, 7), node(4, 0), 1<<40 - 1, 1<<56 - 1, 1 << 56, 1 << 62, leaf0, leaf1, leaf1 + 1, api.Mark - 1, api.Mark}
	return all[r.Below(len(all))]
}

// AnyRecord is a record of such numbers.
func (r *Dice) AnyRecord() api.Rec {
	var rec api.Rec
	for w := range rec {
		rec[w] = r.Odd() + uint64(r.Below(2))
	}
	return rec
}

// AnyFile is a short tape of such records; most of them end as a node file over n levels may.
func (r *Dice) AnyFile(n int) []api.Rec {
	var list []api.Rec
	for range r.Below(4) {
		list = append(list, r.AnyRecord())
	}
	const most = api.MaxVars
	ends := []api.Rec{End(n, api.True, 0), End(n, api.False, 0), End(n, At(r.Below(n), 0), len(list)), End(n, At(0, 0), 1<<62), End(n, At(n-1, 0), 1<<63-1), End(most, At(most-1, 0), len(list)), r.AnyRecord()}
	return append(list, ends[r.Below(len(ends))])
}

// AnyArcs are two short tapes of such records; most of them end as arcs may.
func (r *Dice) AnyArcs() (inner, outer []api.Rec) {
	for range r.Below(4) {
		inner = append(inner, r.AnyRecord())
	}
	for range r.Below(3) {
		outer = append(outer, r.AnyRecord())
	}
	if r.Below(4) > 0 {
		outer = append(outer, End(r.Below(4), api.Ptr(r.Odd()), r.Below(3)))
	}
	return inner, outer
}

// BendArcs changes two tapes in one place.
func (r *Dice) BendArcs(inner, outer []api.Rec) ([]api.Rec, []api.Rec) {
	lists := [2][]api.Rec{slices.Clone(inner), slices.Clone(outer)}
	x := &lists[r.Below(2)]
	if len(*x) == 0 {
		x = &lists[1]
	}
	i := r.Below(len(*x))
	switch r.Below(6) {
	case 0:
		(*x)[i][r.Below(4)] = r.Odd()
	case 1:
		y := lists[1]
		(*x)[i][r.Below(3)] = y[r.Below(len(y))][r.Below(3)]
	case 2:
		j := r.Below(len(*x))
		(*x)[i], (*x)[j] = (*x)[j], (*x)[i]
	case 3:
		if len(*x) > 1 {
			*x = slices.Delete(*x, i, i+1)
		}
	case 4:
		*x = slices.Insert(*x, i, (*x)[r.Below(len(*x))])
	case 5:
		(*x)[i][r.Below(4)] += 1 << (40 * r.Below(2))
	}
	if r.Below(2) == 0 { // a fall would hide all else
		ByWords(lists[0])
		ByWords(lists[1])
	}
	return lists[0], lists[1]
}

// Bend changes a node file in one place.
func (r *Dice) Bend(list []api.Rec) []api.Rec {
	out := slices.Clone(list)
	i := r.Below(len(out))
	switch r.Below(5) {
	case 0:
		out[i][r.Below(4)] = r.Odd()
	case 1:
		out[i][1+r.Below(2)] = out[r.Below(len(out))][r.Below(3)]
	case 2:
		j := r.Below(len(out))
		out[i], out[j] = out[j], out[i]
	case 3:
		out = slices.Delete(out, i, min(i+1, len(out)-1))
	case 4: // one that is not there, in a file that may still be in rows
		if i < len(out)-1 {
			out[i][1] += uint64(r.Below(3))
			out[i][2] += uint64(r.Below(2)) << 40
		}
	}
	return out
}
