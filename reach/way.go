package reach

import (
	"slices"

	"strata/api"
	"strata/calc"
	"strata/tally"
)

// way is the least of the shortest ways from a set into another one. It is found from its end on: the sets of the rounds tell how far a state is from there.
func (w *world) way(from, into string) [][]bool {
	s := &search{w, w.pre, w.applied(api.OpNotA, into, into), into}
	fronts := []string{into}
	first := w.applied(api.OpAnd, from, into)
	for !w.some(first) {
		w.drop(first)
		if !s.round() {
			w.refuse(api.ErrLeaf)
			return nil
		}
		fronts = append(fronts, s.front)
		first = w.applied(api.OpAnd, from, s.front)
	}
	w.drop(s.open)
	return w.along(first, fronts)
}

// along is the least way that begins in a set and goes through the sets ahead of the last one, back to the first.
func (w *world) along(first string, fronts []string) [][]bool {
	state := w.least(first)
	way := [][]bool{state}
	w.drop(first)
	for _, front := range slices.Backward(fronts[:len(fronts)-1]) {
		after := w.desk.Temp()
		w.after(state, after)
		both := w.applied(api.OpAnd, after, front)
		state = w.least(both)
		way = append(way, state)
		w.drop(after, both)
	}
	return way
}

// after makes the set of states that a step leads to from one state.
func (w *world) after(state []bool, to string) {
	led := w.made(func(to string) api.Errno {
		return calc.Restrict(w.desk, w.steps, w.literals(state), to)
	})
	w.turn(led, to)
	w.drop(led)
}

// literals are what a state says of the levels.
func (w *world) literals(state []bool) []api.Lit {
	lits := make([]api.Lit, 0, len(state))
	for bit, value := range state {
		lits = append(lits, api.Lit{Level: w.now[bit], Value: value})
	}
	return lits
}

// least is the least state of a set that has one. Where its bits stand in the order of the levels, it is the first assignment; until they do, the least bit is set: to true just if none of the states that are left has it false.
func (w *world) least(set string) []bool {
	state := make([]bool, len(w.now))
	rest, bits := set, w.bits(set)
	for !slices.IsSorted(bits) {
		bit := slices.Min(bits)
		bits = slices.DeleteFunc(bits, func(b int) bool { return b == bit })
		half := w.restricted(rest, w.now[bit], false)
		if !w.some(half) {
			w.drop(half)
			state[bit] = true
			half = w.restricted(rest, w.now[bit], true)
		}
		if rest != set {
			w.drop(rest)
		}
		rest = half
	}
	byLevel := w.first(rest)
	for _, bit := range bits {
		state[bit] = byLevel[w.now[bit]]
	}
	if rest != set {
		w.drop(rest)
	}
	return state
}

// bits are those that a set hangs on, in the order of their levels.
func (w *world) bits(set string) []int {
	var bits []int
	w.do(func() api.Errno {
		levels, no := tally.Support(w.desk, set)
		for _, level := range levels {
			bits = append(bits, w.order[level]/2)
		}
		return no
	})
	return bits
}

// first is the first assignment of a set, by level.
func (w *world) first(set string) []bool {
	byLevel := make([]bool, len(w.order))
	w.do(func() api.Errno {
		found, no := tally.First(w.desk, set)
		copy(byLevel, found)
		return no
	})
	return byLevel
}

// restricted is a set with one level set to a truth.
func (w *world) restricted(set string, level int, value bool) string {
	return w.made(func(to string) api.Errno {
		return calc.Restrict(w.desk, set, []api.Lit{{Level: level, Value: value}}, to)
	})
}
