package calc_test

import (
	"fmt"
	"slices"
	"testing"

	"strata/api"
	"strata/bench"
	"strata/calc"
	"strata/tape"
)

// The leaves, as the chapter writes them.
const (
	F = api.False
	T = api.True
)

// deed is a call over the node files f, g and h, and the function that DOC.md says of it.
type deed struct {
	what    string
	do      func(k *tape.Desk, out string) api.Errno
	n       int
	means   []bool
	product int // T of W4; 0: it says nothing of this call
}

// makes is the node file that the deed makes under the name out.
func (d deed) makes(out string) bench.Strip {
	return bench.Strip{Name: out, Kind: api.KindNodes, List: bench.Canon(d.n, d.means)}
}

// constant, variable and cube have no operands.
func constant(n int, v bool) deed {
	return deed{
		what:  fmt.Sprintf("Const(%d, %v)", n, v),
		do:    func(k *tape.Desk, out string) api.Errno { return calc.Const(k, n, v, out) },
		n:     n,
		means: bench.TableOf(n, func(int) bool { return v }),
	}
}

func variable(n, level int) deed {
	return deed{
		what:  fmt.Sprintf("Var(%d, %d)", n, level),
		do:    func(k *tape.Desk, out string) api.Errno { return calc.Var(k, n, level, out) },
		n:     n,
		means: bench.TableOf(n, func(x int) bool { return bench.Bit(n, x, level) }),
	}
}

func cube(n int, lits []api.Lit) deed {
	return deed{
		what: fmt.Sprintf("Cube(%d, %v)", n, lits),
		do:   func(k *tape.Desk, out string) api.Errno { return calc.Cube(k, n, lits, out) },
		n:    n,
		means: bench.TableOf(n, func(x int) bool {
			return !slices.ContainsFunc(lits, func(l api.Lit) bool { return bench.Bit(n, x, l.Level) != l.Value })
		}),
	}
}

// trio are three functions over n levels, in the files f, g and h.
type trio struct {
	n      int
	tables [3][]bool
	lists  [3][]api.Rec
}

func trioOf(n int, f, g, h []bool) trio {
	return trio{n, [3][]bool{f, g, h}, [3][]api.Rec{bench.Canon(n, f), bench.Canon(n, g), bench.Canon(n, h)}}
}

// anyTrio are three functions as the dice say.
func anyTrio(r *bench.Dice, n int) trio { return trioOf(n, r.Table(n), r.Table(n), r.Thin(n)) }

func (x trio) tapes() []bench.Strip { return bench.Files(x.lists[:]...) }

func name(i int) string { return string(rune('f' + i)) }

// size is the number of nodes and 2.
func (x trio) size(i int) int { return len(x.lists[i]) + 1 }

func (x trio) not(i int) deed {
	return deed{
		what:    fmt.Sprintf("Not(%s)", name(i)),
		do:      func(k *tape.Desk, out string) api.Errno { return calc.Not(k, name(i), out) },
		n:       x.n,
		means:   bench.TableOf(x.n, func(a int) bool { return !x.tables[i][a] }),
		product: x.size(i),
	}
}

func (x trio) apply(op, i, j int) deed {
	return deed{
		what: fmt.Sprintf("Apply(%d, %s, %s)", op, name(i), name(j)),
		do:   func(k *tape.Desk, out string) api.Errno { return calc.Apply(k, op, name(i), name(j), out) },
		n:    x.n,
		means: bench.TableOf(x.n, func(a int) bool {
			return op>>(2*bench.Side(x.tables[i][a])+bench.Side(x.tables[j][a]))&1 == 1
		}),
		product: x.size(i) * x.size(j),
	}
}

func (x trio) ite(c, i, j int) deed {
	return deed{
		what: fmt.Sprintf("Ite(%s, %s, %s)", name(c), name(i), name(j)),
		do:   func(k *tape.Desk, out string) api.Errno { return calc.Ite(k, name(c), name(i), name(j), out) },
		n:    x.n,
		means: bench.TableOf(x.n, func(a int) bool {
			if x.tables[c][a] {
				return x.tables[i][a]
			}
			return x.tables[j][a]
		}),
		product: x.size(c) * x.size(i) * x.size(j),
	}
}

func (x trio) restrict(i int, lits []api.Lit) deed {
	return deed{
		what: fmt.Sprintf("Restrict(%s, %v)", name(i), lits),
		do:   func(k *tape.Desk, out string) api.Errno { return calc.Restrict(k, name(i), lits, out) },
		n:    x.n,
		means: bench.TableOf(x.n, func(a int) bool {
			for _, l := range lits {
				a = bench.With(x.n, a, l.Level, l.Value)
			}
			return x.tables[i][a]
		}),
		product: x.size(i),
	}
}

// quantify is Exists (any) or Forall: all truths of the levels are tried.
func (x trio) quantify(i int, levels []int, any bool) deed {
	call, what := calc.Forall, "Forall"
	if any {
		call, what = calc.Exists, "Exists"
	}
	return deed{
		what: fmt.Sprintf("%s(%s, %v)", what, name(i), levels),
		do:   func(k *tape.Desk, out string) api.Errno { return call(k, name(i), levels, out) },
		n:    x.n,
		means: bench.TableOf(x.n, func(a int) bool {
			for truths := range 1 << len(levels) {
				for place, l := range levels {
					a = bench.With(x.n, a, l, truths>>place&1 == 1)
				}
				if x.tables[i][a] == any {
					return any
				}
			}
			return !any
		}),
	}
}

func (x trio) compose(i, level, j int) deed {
	return deed{
		what: fmt.Sprintf("Compose(%s, %d, %s)", name(i), level, name(j)),
		do:   func(k *tape.Desk, out string) api.Errno { return calc.Compose(k, name(i), level, name(j), out) },
		n:    x.n,
		means: bench.TableOf(x.n, func(a int) bool {
			return x.tables[i][bench.With(x.n, a, level, x.tables[j][a])]
		}),
	}
}

func (x trio) rename(i int, to []int) deed {
	return deed{
		what:  fmt.Sprintf("Rename(%s, %v)", name(i), to),
		do:    func(k *tape.Desk, out string) api.Errno { return calc.Rename(k, name(i), to, out) },
		n:     x.n,
		means: renamed(x.n, x.tables[i], to),
	}
}

// renamed is DOC.md's Rename: at x, f at the assignment that has at each level l the truth of x at to[l].
func renamed(n int, table []bool, to []int) []bool {
	return bench.TableOf(n, func(x int) bool {
		y := 0
		for l, goal := range to {
			y = bench.With(n, y, l, bench.Bit(n, x, goal))
		}
		return table[y]
	})
}

// clash tells whether two levels that a function hangs on have the same goal.
func clash(n int, table []bool, to []int) bool {
	for a := range n {
		for b := range a {
			if to[a] == to[b] && bench.HangsOn(n, table, a) && bench.HangsOn(n, table, b) {
				return true
			}
		}
	}
	return false
}

// goals are a list for Rename that file i is not refused: the levels that it hangs on go to unlike ones, the others anywhere.
func (x trio) goals(r *bench.Dice, i int) []int {
	to := r.Some(x.n, x.n)
	for l := range to {
		if !bench.HangsOn(x.n, x.tables[i], l) {
			to[l] = r.Below(x.n)
		}
	}
	return to
}

// deeds are all calls over a trio, with all that they may be given.
func (x trio) deeds(r *bench.Dice) []deed {
	out := []deed{constant(x.n, true), constant(x.n, false), x.not(0), x.not(2), x.apply(api.OpXor, 0, 0), x.apply(api.OpDiff, 1, 1)}
	for op := range 16 {
		out = append(out, x.apply(op, 0, 1))
	}
	out = append(out, x.ite(0, 1, 2), x.ite(0, 1, 1), x.ite(1, 1, 2), x.ite(2, 0, 2), x.ite(0, 0, 0))
	for many := range x.n + 1 {
		out = append(out, cube(x.n, r.Lits(x.n, many)), x.restrict(0, r.Lits(x.n, many)), x.quantify(0, r.Some(x.n, many), true), x.quantify(1, r.Some(x.n, many), false))
	}
	for l := range x.n {
		out = append(out, variable(x.n, l), x.compose(0, l, 1), x.compose(2, l, 0), x.compose(1, l, 1), x.quantify(2, []int{l}, l%2 == 0))
	}
	return append(out, x.rename(0, r.Some(x.n, x.n)), x.rename(2, x.goals(r, 2)), x.rename(2, x.goals(r, 2)))
}

// run makes a deed and looks at its file, record by record; then all is as before.
func run(b bench.Bench, d deed) {
	b.Helper()
	b.Is(d.what, d.do(b.Desk, "out"), api.OK)
	b.Made(d.what, d.makes("out"))
	b.Disk().Delete("out")
}

// runAll makes all deeds of a trio on one disk, one behind the other.
func runAll(t *testing.T, x trio, r *bench.Dice, k, free int) {
	t.Helper()
	b := bench.Mount(t, bench.Holds(t, k, x.tapes()...), free)
	for _, d := range x.deeds(r) {
		run(b, d)
	}
}
