package turn_test

import (
	"slices"

	"strata/api"
	"strata/bench"
	"strata/tape"
	"strata/turn"
)

// The leaves, as the chapter writes them.
const (
	F = api.False
	T = api.True
)

// diagram is a function over n levels that hangs on none but some of them, which rise.
type diagram struct {
	n      int
	levels []int
	table  []bool // over as many levels
}

// full is a function over n levels that may hang on each of them.
func full(n int, table []bool) diagram { return diagram{n, upTo(n), table} }

// upTo are the numbers below n.
func upTo(n int) []int {
	var out []int
	for x := range n {
		out = append(out, x)
	}
	return out
}

// list is its well-formed node file.
func (d diagram) list() []api.Rec {
	return bench.Spread(bench.Canon(len(d.levels), d.table), d.n, d.levels)
}

// nodes is how many it has.
func (d diagram) nodes() int { return len(bench.Canon(len(d.levels), d.table)) - 1 }

// reorder is DOC.md's: at an assignment x, f at the assignment that has at level from[i] the truth of x at level i.
func (d diagram) reorder(from []int) diagram {
	var now, were []int // the places at which levels that count stand now, and which of those they were
	for i, level := range from {
		if j := slices.Index(d.levels, level); j >= 0 {
			now, were = append(now, i), append(were, j)
		}
	}
	m := len(d.levels)
	return diagram{d.n, now, bench.TableOf(m, func(x int) bool {
		y := 0
		for i, j := range were {
			y = bench.With(m, y, j, bench.Bit(m, x, i))
		}
		return d.table[y]
	})}
}

// swap is DOC.md's, of a full one: f at the assignment in which the truths of l and l + 1 are changed with one another.
func (d diagram) swap(l int) diagram {
	return full(d.n, bench.TableOf(d.n, func(x int) bool {
		y := bench.With(d.n, x, l, bench.Bit(d.n, x, l+1))
		return d.table[bench.With(d.n, y, l+1, bench.Bit(d.n, x, l))]
	}))
}

// neighbours is the permutation of n that has just l and l + 1 changed.
func neighbours(n, l int) []int {
	out := upTo(n)
	out[l], out[l+1] = l+1, l
	return out
}

// move is the permutation that the chapter calls so: v to place p, over n levels.
func move(n, v, p int) []int { return putIn(upTo(n), v, p) }

// putIn is a list of which v has been taken out and put in at place p.
func putIn(list []int, v, p int) []int {
	rest := slices.DeleteFunc(slices.Clone(list), func(x int) bool { return x == v })
	return slices.Insert(rest, p, v)
}

// turned is the list that has at i the place of i in a permutation.
func turned(list []int) []int {
	out := make([]int, len(list))
	for i, x := range list {
		out[x] = i
	}
	return out
}

// group are diagrams over the same number of levels, in the files f, g and so on.
type group []diagram

func (g group) n() int { return g[0].n }

func (g group) lists() [][]api.Rec {
	var out [][]api.Rec
	for _, d := range g {
		out = append(out, d.list())
	}
	return out
}

func (g group) tapes() []bench.Strip { return bench.Files(g.lists()...) }

// names are those of so many files from one on.
func names(first rune, many int) []string {
	var out []string
	for i := range many {
		out = append(out, string(first+rune(i)))
	}
	return out
}

func (g group) files() []string { return names('f', len(g)) }

// sum is how many nodes they have together, reordered.
func (g group) sum(from []int) int {
	n := 0
	for _, d := range g {
		n += d.reorder(from).nodes()
	}
	return n
}

// cost is Cost, by the words of the chapter.
func (g group) cost(level int) []int {
	out := make([]int, g.n())
	for p := range out {
		out[p] = g.sum(move(g.n(), level, p))
	}
	return out
}

// ties are how often Best had to choose: where the level stood was best, and so was a lesser place; it was not best, and several were.
type ties struct{ stayed, first int }

// best is Best, by the words of the chapter.
func (g group) best() ([]int, ties) {
	cur := upTo(g.n())
	var met ties
	for v := range g.n() {
		q := slices.Index(cur, v)
		var costs []int
		for p := range g.n() {
			costs = append(costs, g.sum(putIn(cur, v, p)))
		}
		var best []int // places
		for p, c := range costs {
			if c == slices.Min(costs) {
				best = append(best, p)
			}
		}
		switch {
		case slices.Contains(best, q) && best[0] < q:
			met.stayed++
		case !slices.Contains(best, q):
			cur = putIn(cur, v, best[0])
			if len(best) > 1 {
				met.first++
			}
		}
	}
	return cur, met
}

// anyGroup are functions over n levels as the dice say: one that hangs on all of them, some that hang on few, one that hangs on none, and two of one function.
func anyGroup(r *bench.Dice, n int) group {
	f, thin := r.Table(n), r.Thin(n)
	return group{full(n, f), full(n, thin), full(n, make([]bool, 1<<n)), full(n, r.Thin(n)), full(n, f)}
}

// wide are functions over n levels that hang on at most m of them, anywhere.
func wide(r *bench.Dice, n, m, many int) group {
	var out group
	for range many {
		levels := slices.Sorted(slices.Values(r.Some(n, m)))
		out = append(out, diagram{n, levels, r.Table(m)})
	}
	return out
}

func nodeFile(name string, list []api.Rec) bench.Strip {
	return bench.Strip{Name: name, Kind: api.KindNodes, List: list}
}

// swaps makes Swap of f and looks at its file, record by record; then all is as before.
func swaps(b bench.Bench, f string, level int, want diagram) {
	b.Helper()
	what := []any{"Swap", f, level}
	b.Is(what, turn.Swap(b.Desk, f, level, "out"), api.OK)
	b.Made(what, nodeFile("out", want.list()))
	b.Disk().Delete("out")
}

// reorders makes Reorder of a group's files and looks at those that it makes; then all is as before.
func (g group) reorders(b bench.Bench, from []int) {
	b.Helper()
	outs := names('p', len(g))
	what := []any{"Reorder", from[:min(len(from), 100)]}
	b.Is(what, turn.Reorder(b.Desk, g.files(), from, outs), api.OK)
	var made []bench.Strip
	for i, d := range g {
		made = append(made, nodeFile(outs[i], d.reorder(from).list()))
	}
	b.Made(what, made...)
	for _, out := range outs {
		b.Disk().Delete(out)
	}
}

// costs makes Cost of these files and looks at its answer.
func costs(b bench.Bench, files []string, level int, want []int) {
	b.Helper()
	got, e := turn.Cost(b.Desk, files, level)
	if e != api.OK || !slices.Equal(got, want) {
		b.Fatalf("Cost(%v, %d): %v, %d, want %v", files, level, got, e, want)
	}
	b.AsBefore("Cost")
}

// bests makes Best of these files and looks at its answer.
func bests(b bench.Bench, files []string, want []int) {
	b.Helper()
	got, e := turn.Best(b.Desk, files)
	if e != api.OK || !slices.Equal(got, want) {
		b.Fatalf("Best(%v): %v, %d, want %v", files, got, e, want)
	}
	b.AsBefore("Best")
}

// runAll makes all calls over a group, with all that they may be given but the permutations, of which there are some.
func (g group) runAll(b bench.Bench, r *bench.Dice) {
	b.Helper()
	n := g.n()
	for i, d := range g {
		for l := range n - 1 {
			swaps(b, g.files()[i], l, d.swap(l))
		}
	}
	for _, from := range [][]int{upTo(n), r.Some(n, n), r.Some(n, n), turned(r.Some(n, n))} {
		g.reorders(b, from)
	}
	for l := range n {
		costs(b, g.files(), l, g.cost(l))
	}
	best, _ := g.best()
	bests(b, g.files(), best)
}

// deed is a call over a group's files; right tells whether it has answered what it should, beside the files that it makes.
type deed struct {
	what  string
	do    func(k *tape.Desk) (right bool, e api.Errno)
	makes []bench.Strip
}

// deeds are a call of each kind.
func (g group) deeds(r *bench.Dice) []deed {
	n, f := g.n(), g.files()
	level, from := r.Below(n-1), r.Some(n, n)
	var made []bench.Strip
	for i, d := range g {
		made = append(made, nodeFile(names('p', len(g))[i], d.reorder(from).list()))
	}
	best, _ := g.best()
	return []deed{
		{"Swap", func(k *tape.Desk) (bool, api.Errno) { return true, turn.Swap(k, "f", level, "out") }, []bench.Strip{nodeFile("out", g[0].swap(level).list())}},
		{"Reorder", func(k *tape.Desk) (bool, api.Errno) {
			return true, turn.Reorder(k, f, from, names('p', len(g)))
		}, made},
		{"Cost", func(k *tape.Desk) (bool, api.Errno) {
			got, e := turn.Cost(k, f, level)
			return slices.Equal(got, g.cost(level)), e
		}, nil},
		{"Best", func(k *tape.Desk) (bool, api.Errno) {
			got, e := turn.Best(k, f)
			return slices.Equal(got, best), e
		}, nil},
	}
}
