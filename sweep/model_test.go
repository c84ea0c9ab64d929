package sweep_test

import (
	"slices"

	"strata/api"
	"strata/bench"
)

// What the chapter's words say, by means of its own: numbers and maps in memory.

const (
	ids   = uint64(1) << 40 // of a level
	first = uint64(1) << 63 // the first leaf
)

func leaf(p uint64) bool { return p >= first }

func levelOf(p uint64) int {
	if leaf(p) {
		return 1 << 20
	}
	return int(p / ids)
}

// diagram is a node file that is looked up.
type diagram struct {
	n    int
	root uint64
	kids map[uint64][2]uint64
}

func diagramOf(list []api.Rec) diagram {
	last := len(list) - 1
	d := diagram{int(list[last][1]), list[last][2], map[uint64][2]uint64{}}
	for _, r := range list[:last] {
		d.kids[r[0]] = [2]uint64{r[1], r[2]}
	}
	return d
}

// child is the child of a pointer at level l at side s.
func (d diagram) child(p uint64, l, s int) uint64 {
	if levelOf(p) == l {
		return d.kids[p][s]
	}
	return p
}

// tuple is a state.
type tuple [3]uint64

// word is what the chapter says of a state: a leaf; or a node of a level with two children.
type word struct {
	settled bool
	leaf    uint64
	level   int
	kids    [2]tuple
}

func yes(leaf uint64) word { return word{settled: true, leaf: leaf} }

// truth is a leaf of a truth.
func truth(v int) uint64 { return first + uint64(v) }

// unreduced are the two tapes of the unreduced diagram over n levels that begins with a state.
func unreduced(n int, root tuple, say func(tuple) word) (inner, outer []api.Rec) {
	words := map[tuple]word{}
	levels := make([][]tuple, n)
	work := []tuple{root}
	for len(work) > 0 {
		s := work[0]
		work = work[1:]
		if _, seen := words[s]; seen {
			continue
		}
		w := say(s)
		words[s] = w
		if !w.settled {
			levels[w.level] = append(levels[w.level], s)
			work = append(work, w.kids[0], w.kids[1])
		}
	}
	point := map[tuple]uint64{}
	count := uint64(0)
	for l, row := range levels {
		slices.SortFunc(row, func(a, b tuple) int { return slices.Compare(a[:], b[:]) })
		for i, s := range row {
			point[s] = uint64(l)*ids + uint64(i)
			count++
		}
	}
	to := func(s tuple) uint64 {
		if words[s].settled {
			return words[s].leaf
		}
		return point[s]
	}
	inner, outer = []api.Rec{}, []api.Rec{}
	for s, from := range point {
		for side, kid := range words[s].kids {
			if p := to(kid); leaf(p) {
				outer = append(outer, api.Rec{from, uint64(side), p, 0})
			} else {
				inner = append(inner, api.Rec{p, from, uint64(side), 0})
			}
		}
	}
	bench.ByWords(inner)
	bench.ByWords(outer)
	return inner, append(outer, api.Rec{^uint64(0), uint64(n), to(root), count})
}

// twoOf is the section Two.
func twoOf(op int, f, g diagram) (inner, outer []api.Rec) {
	bit := func(x, y int) uint64 { return truth(op >> (2*x + y) & 1) }
	v := func(p uint64) int { return int(p - first) }
	return unreduced(f.n, tuple{f.root, g.root}, func(s tuple) word {
		a, b := s[0], s[1]
		if leaf(a) && leaf(b) {
			return yes(bit(v(a), v(b)))
		}
		if leaf(a) && bit(v(a), 0) == bit(v(a), 1) {
			return yes(bit(v(a), 0))
		}
		if leaf(b) && bit(0, v(b)) == bit(1, v(b)) {
			return yes(bit(0, v(b)))
		}
		w := word{level: min(levelOf(a), levelOf(b))}
		for side := range w.kids {
			w.kids[side] = tuple{f.child(a, w.level, side), g.child(b, w.level, side)}
		}
		return w
	})
}

// threeOf is the section Three.
func threeOf(f, g, h diagram) (inner, outer []api.Rec) {
	form := func(s tuple) tuple {
		switch s[0] {
		case truth(1):
			return tuple{s[0], s[1], truth(0)}
		case truth(0):
			return tuple{s[0], truth(0), s[2]}
		}
		return s
	}
	return unreduced(f.n, form(tuple{f.root, g.root, h.root}), func(s tuple) word {
		c, a, b := s[0], s[1], s[2]
		if c == truth(1) && leaf(a) {
			return yes(a)
		}
		if c == truth(0) && leaf(b) {
			return yes(b)
		}
		if a == b && leaf(a) {
			return yes(a)
		}
		w := word{level: min(levelOf(c), levelOf(a), levelOf(b))}
		for side := range w.kids {
			w.kids[side] = form(tuple{f.child(c, w.level, side), g.child(a, w.level, side), h.child(b, w.level, side)})
		}
		return w
	})
}

// fixOf is the section Fix.
func fixOf(f diagram, lits []api.Lit) (inner, outer []api.Rec) {
	pass := func(a uint64) tuple {
	again:
		for _, lit := range lits {
			if levelOf(a) == lit.Level {
				a = f.kids[a][bench.Side(lit.Value)]
				goto again
			}
		}
		return tuple{a}
	}
	return unreduced(f.n, pass(f.root), func(s tuple) word {
		if leaf(s[0]) {
			return yes(s[0])
		}
		k := f.kids[s[0]]
		return word{level: levelOf(s[0]), kids: [2]tuple{pass(k[0]), pass(k[1])}}
	})
}

// quantOf is the section Quant.
func quantOf(f diagram, v int, any bool) (inner, outer []api.Rec) {
	var form func(a, b uint64) tuple
	form = func(a, b uint64) tuple {
		is := func(x uint64) bool { return a == x || b == x }
		other := func(x uint64) uint64 {
			if a == x {
				return b
			}
			return a
		}
		switch {
		case a == b && levelOf(a) == v:
			return form(f.kids[a][0], f.kids[a][1])
		case a == b:
			return tuple{a, a}
		case any && is(truth(1)):
			return tuple{truth(1), truth(1)}
		case !any && is(truth(0)):
			return tuple{truth(0), truth(0)}
		case any && is(truth(0)):
			return tuple{other(truth(0)), other(truth(0))}
		case !any && is(truth(1)):
			return tuple{other(truth(1)), other(truth(1))}
		}
		return tuple{min(a, b), max(a, b)}
	}
	return unreduced(f.n, form(f.root, f.root), func(s tuple) word {
		if s[0] == s[1] && leaf(s[0]) {
			return yes(s[0])
		}
		w := word{level: min(levelOf(s[0]), levelOf(s[1]))}
		for side := range w.kids {
			w.kids[side] = form(f.child(s[0], w.level, side), f.child(s[1], w.level, side))
		}
		return w
	})
}

// swapOf is the section Swap. A state is (a, 0) or (a, 1 and s): the two sorts never stand at one level.
func swapOf(f diagram, i int) (inner, outer []api.Rec) {
	at := func(p uint64, s int) uint64 { return f.child(p, i+1, s) } // p|s
	meet := func(a uint64, s int) tuple {
		low, high := at(f.kids[a][0], s), at(f.kids[a][1], s)
		if low == high {
			return tuple{low}
		}
		return tuple{a, 1 + uint64(s)}
	}
	return unreduced(f.n, tuple{f.root}, func(s tuple) word {
		a := s[0]
		k := f.kids[a]
		switch {
		case s[1] > 0:
			t := int(s[1] - 1)
			return word{level: i + 1, kids: [2]tuple{{at(k[0], t)}, {at(k[1], t)}}}
		case leaf(a):
			return yes(a)
		case levelOf(a) == i:
			return word{level: i, kids: [2]tuple{meet(a, 0), meet(a, 1)}}
		case levelOf(a) == i+1:
			return word{level: i, kids: [2]tuple{{k[0]}, {k[1]}}}
		}
		return word{level: levelOf(a), kids: [2]tuple{{k[0]}, {k[1]}}}
	})
}
