package sweep_test

import (
	"fmt"
	"slices"
	"testing"

	"strata/api"
	"strata/bench"
	"strata/sweep"
	"strata/tape"
)

// job is one of the five over the node files f, g and h, and what the chapter's words say of it.
type job struct {
	what         string
	do           func(k *tape.Desk, out string) api.Errno
	inner, outer []api.Rec
	means        []bool // P8.11
	most         int    // nodes, P8.10
	product      int    // T of W4
}

// nodes is how many the job makes.
func (j job) nodes() int { return int(j.outer[len(j.outer)-1][3]) }

// trio are three functions over n levels.
type trio struct {
	n      int
	tables [3][]bool
	lists  [3][]api.Rec
}

func trioOf(n int, f, g, h []bool) trio {
	return trio{n, [3][]bool{f, g, h}, [3][]api.Rec{bench.Canon(n, f), bench.Canon(n, g), bench.Canon(n, h)}}
}

func (x trio) tapes() []bench.Strip { return bench.Files(x.lists[:]...) }

func (x trio) name(i int) string { return string(rune('f' + i)) }

func (x trio) diagram(i int) diagram { return diagramOf(x.lists[i]) }

// size is the number of nodes and 2.
func (x trio) size(i int) int { return len(x.lists[i]) + 1 }

func (x trio) two(op, i, j int) job {
	inner, outer := twoOf(op, x.diagram(i), x.diagram(j))
	return job{
		what:  fmt.Sprintf("Two(%d, %s, %s)", op, x.name(i), x.name(j)),
		do:    func(k *tape.Desk, out string) api.Errno { return sweep.Two(k, op, x.name(i), x.name(j), out) },
		inner: inner, outer: outer,
		means:   bench.TableOf(x.n, func(a int) bool { return op>>(2*bench.Side(x.tables[i][a])+bench.Side(x.tables[j][a]))&1 == 1 }),
		most:    x.size(i) * x.size(j),
		product: x.size(i) * x.size(j),
	}
}

func (x trio) three(c, i, j int) job {
	inner, outer := threeOf(x.diagram(c), x.diagram(i), x.diagram(j))
	return job{
		what:  fmt.Sprintf("Three(%s, %s, %s)", x.name(c), x.name(i), x.name(j)),
		do:    func(k *tape.Desk, out string) api.Errno { return sweep.Three(k, x.name(c), x.name(i), x.name(j), out) },
		inner: inner, outer: outer,
		means: bench.TableOf(x.n, func(a int) bool {
			if x.tables[c][a] {
				return x.tables[i][a]
			}
			return x.tables[j][a]
		}),
		most:    x.size(c) * x.size(i) * x.size(j),
		product: x.size(c) * x.size(i) * x.size(j),
	}
}

func (x trio) fix(i int, lits []api.Lit) job {
	inner, outer := fixOf(x.diagram(i), lits)
	return job{
		what:  fmt.Sprintf("Fix(%s, %v)", x.name(i), lits),
		do:    func(k *tape.Desk, out string) api.Errno { return sweep.Fix(k, x.name(i), lits, out) },
		inner: inner, outer: outer,
		means: bench.TableOf(x.n, func(a int) bool {
			for _, lit := range lits {
				a = bench.With(x.n, a, lit.Level, lit.Value)
			}
			return x.tables[i][a]
		}),
		most:    x.size(i) - 2,
		product: x.size(i),
	}
}

func (x trio) quant(i, level int, any bool) job {
	inner, outer := quantOf(x.diagram(i), level, any)
	return job{
		what:  fmt.Sprintf("Quant(%s, %d, %v)", x.name(i), level, any),
		do:    func(k *tape.Desk, out string) api.Errno { return sweep.Quant(k, x.name(i), level, any, out) },
		inner: inner, outer: outer,
		means: bench.TableOf(x.n, func(a int) bool {
			low, high := x.tables[i][bench.With(x.n, a, level, false)], x.tables[i][bench.With(x.n, a, level, true)]
			return any && (low || high) || low && high
		}),
		most:    x.size(i) * x.size(i),
		product: x.size(i) * x.size(i),
	}
}

func (x trio) swap(i, level int) job {
	inner, outer := swapOf(x.diagram(i), level)
	return job{
		what:  fmt.Sprintf("Swap(%s, %d)", x.name(i), level),
		do:    func(k *tape.Desk, out string) api.Errno { return sweep.Swap(k, x.name(i), level, out) },
		inner: inner, outer: outer,
		means: bench.TableOf(x.n, func(a int) bool {
			one, two := bench.Bit(x.n, a, level), bench.Bit(x.n, a, level+1)
			return x.tables[i][bench.With(x.n, bench.With(x.n, a, level, two), level+1, one)]
		}),
		most:    x.size(i) - 2 + 2*bench.Width(x.lists[i], level),
		product: x.size(i) * x.size(i),
	}
}

// jobs are the five over a trio, with all that they may be given.
func (x trio) jobs(r *dice) []job {
	out := []job{x.two(api.OpXor, 0, 0), x.two(api.OpDiff, 0, 0), x.three(0, 1, 2), x.three(0, 1, 1), x.three(0, 0, 2), x.three(1, 0, 1), x.three(2, 2, 2)}
	for op := range 16 {
		out = append(out, x.two(op, 0, 1))
	}
	for some := range x.n + 1 {
		out = append(out, x.fix(0, r.Lits(x.n, some)))
	}
	for l := range x.n {
		out = append(out, x.quant(0, l, true), x.quant(0, l, false))
		if l > 0 {
			out = append(out, x.swap(0, l-1))
		}
	}
	return out
}

// run makes a job and looks at its tapes, record by record.
func (b stand) run(j job) {
	b.Helper()
	b.Is(j.what, j.do(b.Desk, "out"), api.OK)
	b.made(j.what, "out", j.inner, j.outer)
}

// runAll makes all jobs of a trio on one disk, one behind the other.
func runAll(t *testing.T, x trio, r *dice, k, free int) {
	t.Helper()
	b := mount(t, bench.Holds(t, k, x.tapes()...), free)
	for _, j := range x.jobs(r) {
		if !slices.Equal(bench.Means(j.inner, j.outer), j.means) {
			t.Fatalf("the model contradicts itself: %s of %v", j.what, x.tables)
		}
		b.run(j)
		if j.nodes() > j.most {
			t.Fatalf("P8.10: %s: %d nodes, at most %d", j.what, j.nodes(), j.most)
		}
		b.clear("out")
		b.AsBefore(j.what)
	}
}
