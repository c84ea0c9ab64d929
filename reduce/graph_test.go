package reduce_test

import (
	"maps"
	"slices"

	"strata/api"
	"strata/bench"
)

// graph is an unreduced diagram in memory.
type graph struct {
	n    int
	root uint64
	kids map[uint64][2]uint64
}

// graphOf is a node file as an unreduced diagram.
func graphOf(list []api.Rec) graph {
	last := list[len(list)-1]
	g := graph{int(last[1]), last[2], map[uint64][2]uint64{}}
	for _, r := range list[:len(list)-1] {
		g.kids[r[0]] = [2]uint64{r[1], r[2]}
	}
	return g
}

// tree is the greatest diagram of a function in which each node but the root has one arc to it: a node for all truths of the levels above it.
func tree(n int, table []bool) graph {
	g := graph{n, 0, map[uint64][2]uint64{}}
	if n == 0 {
		g.root = truth(bench.Side(table[0]))
	}
	for l := range n {
		for i := range 1 << l {
			var k [2]uint64
			for s := range k {
				k[s] = uint64(bench.At(l+1, 2*i+s))
				if l == n-1 {
					k[s] = truth(bench.Side(table[2*i+s]))
				}
			}
			g.kids[uint64(bench.At(l, i))] = k
		}
	}
	return g
}

// wild is a diagram of nodes that lead to anything below them, at most so many at a level.
func (r *dice) wild(n, most int) graph {
	g := graph{n, truth(r.Below(2)), map[uint64][2]uint64{}}
	below := []uint64{uint64(F), uint64(T)}
	for l := n - 1; l >= 0; l-- {
		var row []uint64
		for i := range r.Below(most + 1) {
			p := uint64(bench.At(l, i))
			var k [2]uint64
			for s := range k {
				k[s] = below[r.Below(len(below))]
				if r.Below(2) == 0 { // rather to what stands just below
					k[s] = below[len(below)-1-r.Below(min(len(below), most))]
				}
			}
			g.kids[p] = k
			row = append(row, p)
			g.root = p
		}
		below = append(below, row...)
	}
	return g.tidy()
}

// nodes are those of a graph, by their pointers.
func (g graph) nodes() []uint64 { return slices.Sorted(maps.Keys(g.kids)) }

// tidy leaves out what the root does not come to, and numbers the rest anew.
func (g graph) tidy() graph {
	seen := map[uint64]bool{g.root: true}
	counts := map[int]int{}
	now := map[uint64]uint64{uint64(F): uint64(F), uint64(T): uint64(T)}
	for _, p := range g.nodes() { // the levels rise, so what comes to a node stands ahead of it
		if !seen[p] {
			continue
		}
		seen[g.kids[p][0]], seen[g.kids[p][1]] = true, true
		now[p] = uint64(bench.At(levelOf(p), counts[levelOf(p)]))
		counts[levelOf(p)]++
	}
	return g.renamed(now)
}

// renamed is the same diagram with other ids; nodes that have none are left out.
func (g graph) renamed(now map[uint64]uint64) graph {
	out := graph{g.n, now[g.root], map[uint64][2]uint64{}}
	for p, k := range g.kids {
		if q, some := now[p]; some {
			out.kids[q] = [2]uint64{now[k[0]], now[k[1]]}
		}
	}
	return out
}

// shuffled is the same diagram with the ids of each level in another order.
func (r *dice) shuffled(g graph) graph {
	now := map[uint64]uint64{uint64(F): uint64(F), uint64(T): uint64(T)}
	rows := map[int][]uint64{}
	for _, p := range g.nodes() {
		rows[levelOf(p)] = append(rows[levelOf(p)], p)
	}
	for l := range g.n {
		row := rows[l]
		for i := range row {
			j := r.Below(i + 1)
			row[i], row[j] = row[j], row[i]
		}
		for i, p := range row {
			now[p] = uint64(bench.At(l, i))
		}
	}
	return g.renamed(now)
}

// width is how many nodes a level has.
func (g graph) width(l int) int {
	n := 0
	for p := range g.kids {
		if levelOf(p) == l {
			n++
		}
	}
	return n
}

// place is an arc of a graph: a side of a node.
type place struct {
	from uint64
	side int
}

// places are the arcs to a pointer.
func (g graph) places(to uint64) []place {
	var out []place
	for _, p := range g.nodes() {
		for s, k := range g.kids[p] {
			if k == to {
				out = append(out, place{p, s})
			}
		}
	}
	return out
}

// bend lets an arc lead to another pointer.
func (g graph) bend(a place, to uint64) {
	k := g.kids[a.from]
	k[a.side] = to
	g.kids[a.from] = k
}

// double makes of a node two that are alike, each with arcs to it, if it has several.
func (r *dice) double(g *graph) {
	all := g.nodes()
	if len(all) == 0 {
		return
	}
	p := all[r.Below(len(all))]
	to := g.places(p)
	if len(to) < 2 {
		return
	}
	q := uint64(bench.At(levelOf(p), g.width(levelOf(p))))
	g.kids[q] = g.kids[p]
	for _, a := range to[:1+r.Below(len(to)-1)] {
		g.bend(a, q)
	}
}

// pad puts a node with two equal arcs between a node and what it leads to, or above the root, where there is a level for it.
func (r *dice) pad(g *graph) {
	all := append(g.nodes(), 0)
	i := r.Below(len(all))
	above, to := -1, g.root
	a := place{all[i], r.Below(2)}
	if i < len(all)-1 {
		above, to = levelOf(a.from), g.kids[a.from][a.side]
	}
	gap := min(levelOf(to), g.n) - above - 1
	if gap == 0 {
		return
	}
	l := above + 1 + r.Below(gap)
	q := uint64(bench.At(l, g.width(l)))
	if i < len(all)-1 {
		g.bend(a, q)
	} else {
		g.root = q
	}
	g.kids[q] = [2]uint64{to, to}
}

// puffed is another diagram of the same function, made in so many steps.
func (r *dice) puffed(g graph, steps int) graph {
	g.kids = maps.Clone(g.kids)
	for range steps {
		if r.Below(2) == 0 {
			r.double(&g)
		} else {
			r.pad(&g)
		}
	}
	return r.shuffled(g)
}

// tapes are the two tapes of a graph.
func (g graph) tapes() (inner, outer []api.Rec) {
	for from, k := range g.kids {
		for s, to := range k {
			if levelOf(to) > g.n {
				outer = append(outer, api.Rec{from, uint64(s), to})
			} else {
				inner = append(inner, api.Rec{to, from, uint64(s)})
			}
		}
	}
	bench.ByWords(inner)
	bench.ByWords(outer)
	return inner, append(outer, bench.End(g.n, api.Ptr(g.root), len(g.kids)))
}

// arcs are those of a graph, as a list.
func (g graph) arcs() []api.Arc {
	var out []api.Arc
	for _, p := range g.nodes() {
		for s, to := range g.kids[p] {
			out = append(out, api.Arc{From: api.Ptr(p), Side: s, To: api.Ptr(to)})
		}
	}
	return out
}

func (g graph) info() api.Info {
	return api.Info{Vars: g.n, Root: api.Ptr(g.root), Nodes: len(g.kids)}
}

// canon is the node file of a graph's function.
func (g graph) canon() []api.Rec { return bench.Canon(g.n, bench.Means(g.tapes())) }
