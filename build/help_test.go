package build_test

import (
	"fmt"
	"slices"
	"strconv"
	"testing"

	"strata/api"
	"strata/bench"
	"strata/build"
	"strata/circuit"
	"strata/formula"
	"strata/tape"
)

// The leaves, as the chapter writes them.
const (
	F = api.False
	T = api.True
)

// deed is a call, and the function over n levels that the chapter says of it.
type deed struct {
	what  string
	do    func(k *tape.Desk, out string) api.Errno
	n     int
	means []bool
}

// makes is the node file that the deed makes under the name out.
func (d deed) makes(out string) bench.Strip { return nodeFile(out, bench.Canon(d.n, d.means)) }

func nodeFile(name string, list []api.Rec) bench.Strip {
	return bench.Strip{Name: name, Kind: api.KindNodes, List: list}
}

// run makes a deed and looks at all that it leaves.
func run(b bench.Bench, d deed) {
	b.Helper()
	b.Is(d.what, d.do(b.Desk, "out"), api.OK)
	b.Made(d.what, d.makes("out"))
	b.Disk().Delete("out")
}

// truths are those that levels have at an assignment over n.
func truths(n, x int, levels []int) []bool {
	out := make([]bool, len(levels))
	for i, l := range levels {
		out[i] = bench.Bit(n, x, l)
	}
	return out
}

// says is what a formula says of its variables' truths, and the nodes ahead of it.
func says(f []api.Fnode, x []bool) (bool, []api.Fnode) {
	n, rest := f[len(f)-1], f[:len(f)-1]
	var a, b, c bool
	switch n.Op {
	case api.FoConst:
		return n.N == 1, rest
	case api.FoVar:
		return x[n.N], rest
	case api.FoNot:
		a, rest = says(rest, x)
		return !a, rest
	case api.FoExists, api.FoForall:
		was := x[n.N]
		x[n.N] = false
		a, _ = says(rest, x)
		x[n.N] = true
		b, rest = says(rest, x)
		x[n.N] = was
		return a && b || n.Op == api.FoExists && (a || b), rest
	case api.FoIte:
		c, rest = says(rest, x)
		b, rest = says(rest, x)
		a, rest = says(rest, x)
		return a && b || !a && c, rest
	}
	b, rest = says(rest, x)
	a, rest = says(rest, x)
	op := map[int]int{api.FoAnd: 8, api.FoOr: 14, api.FoXor: 6, api.FoImp: 11, api.FoIff: 9}[n.Op]
	return op>>(2*bench.Side(a)+bench.Side(b))&1 == 1, rest
}

// ofFormula is Formula of a list.
func ofFormula(n int, f []api.Fnode, at []int) deed {
	return deed{
		what: fmt.Sprintf("Formula(%d, %v, %v)", n, f[max(0, len(f)-40):], at),
		do:   func(k *tape.Desk, out string) api.Errno { return build.Formula(k, n, f, at, out) },
		n:    n,
		means: bench.TableOf(n, func(x int) bool {
			v, _ := says(f, truths(n, x, at))
			return v
		}),
	}
}

// ofCnf is Cnf of clauses.
func ofCnf(n int, c api.Cnf, at []int) deed {
	return deed{
		what: fmt.Sprintf("Cnf(%d, %v, %v)", n, c, at),
		do:   func(k *tape.Desk, out string) api.Errno { return build.Cnf(k, n, c, at, out) },
		n:    n,
		means: bench.TableOf(n, func(x int) bool {
			bits := truths(n, x, at)
			from := 0
			for _, end := range c.Ends {
				if !slices.ContainsFunc(c.Lits[from:end], func(lit int) bool { return lit > 0 && bits[lit-1] || lit < 0 && !bits[-lit-1] }) {
					return false
				}
				from = end
			}
			return true
		}),
	}
}

// ofTable is Table.
func ofTable(n int, table []bool) deed {
	return deed{
		what:  fmt.Sprintf("Table(%d)", n),
		do:    func(k *tape.Desk, out string) api.Errno { return build.Table(k, n, table, out) },
		n:     n,
		means: table,
	}
}

// lines are the places of the lines of a kind.
func lines(c api.Circuit, kind int) []int {
	var out []int
	for place, g := range c.Gates {
		if g.Kind == kind {
			out = append(out, place)
		}
	}
	return out
}

// points is how many inputs and latches a circuit has.
func points(c api.Circuit) int { return len(lines(c, api.GaInput)) + len(lines(c, api.GaLatch)) }

// ofLine is Line. The value is played.
func ofLine(t bench.T, n int, c api.Circuit, place int, at []int) deed {
	t.Helper()
	played := c
	played.Outs = []int{place}
	return deed{
		what: fmt.Sprintf("Line(%d, %v, %d, %v)", n, c, place, at),
		do:   func(k *tape.Desk, out string) api.Errno { return build.Line(k, n, c, place, at, out) },
		n:    n,
		means: bench.TableOf(n, func(x int) bool {
			var inputs, latches []bool
			for i, v := range truths(n, x, at) {
				if slices.Contains(lines(c, api.GaInput), pointAt(c, i)) {
					inputs = append(inputs, v)
				} else {
					latches = append(latches, v)
				}
			}
			outs, _, e := circuit.Step(played, inputs, latches)
			if e != api.OK {
				t.Fatalf("%v: %d", c, e)
			}
			return outs[0]
		}),
	}
}

// pointAt is the place of the i-th point.
func pointAt(c api.Circuit, i int) int {
	all := append(lines(c, api.GaInput), lines(c, api.GaLatch)...)
	slices.Sort(all)
	return all[i]
}

// ofRelation is Relation. All truths of the inputs are tried.
func ofRelation(t bench.T, n int, c api.Circuit, now, next []int) deed {
	t.Helper()
	many := len(lines(c, api.GaInput))
	return deed{
		what: fmt.Sprintf("Relation(%d, %v, %v, %v)", n, c, now, next),
		do:   func(k *tape.Desk, out string) api.Errno { return build.Relation(k, n, c, now, next, out) },
		n:    n,
		means: bench.TableOf(n, func(x int) bool {
			for in := range 1 << many {
				inputs := make([]bool, many)
				for i := range inputs {
					inputs[i] = in>>i&1 == 1
				}
				_, then, e := circuit.Step(c, inputs, truths(n, x, now))
				if e != api.OK {
					t.Fatalf("%v: %d", c, e)
				}
				if slices.Equal(then, truths(n, x, next)) {
					return true
				}
			}
			return false
		}),
	}
}

// dice make formulas, clauses and circuits that are the same in each run.
type dice struct{ bench.Dice }

func newDice(seed uint64) *dice { return &dice{bench.Dice(seed)} }

// of is one of several.
func of[T any](d *dice, all ...T) T { return all[d.Below(len(all))] }

func node(op int) api.Fnode { return api.Fnode{Op: op} }

// formula is one of so many nodes, over so many variables (at least one).
func (d *dice) formula(nodes, vars int) []api.Fnode {
	switch {
	case nodes <= 1:
		variable := api.Fnode{Op: api.FoVar, N: d.Below(vars)}
		return []api.Fnode{of(d, variable, variable, variable, variable, api.Fnode{Op: api.FoConst, N: d.Below(2)})}
	case nodes == 2 || d.Below(4) == 0:
		return append(d.formula(nodes-1, vars), of(d, node(api.FoNot), api.Fnode{Op: of(d, api.FoExists, api.FoForall), N: d.Below(vars)}))
	case nodes >= 4 && d.Below(5) == 0:
		a := 1 + d.Below(nodes-3)
		b := 1 + d.Below(nodes-2-a)
		return append(slices.Concat(d.formula(a, vars), d.formula(b, vars), d.formula(nodes-1-a-b, vars)), node(api.FoIte))
	}
	a := 1 + d.Below(nodes-2)
	return append(append(d.formula(a, vars), d.formula(nodes-1-a, vars)...), node(of(d, api.FoAnd, api.FoOr, api.FoXor, api.FoImp, api.FoIff)))
}

// cnf are so many clauses of few literals; none without any, if the least is not 0.
func (d *dice) cnf(vars, clauses, least, most int) api.Cnf {
	c := api.Cnf{Vars: vars}
	for range clauses {
		for range least + d.Below(most+1-least) {
			if vars > 0 {
				c.Lits = append(c.Lits, of(d, 1, -1)*(1+d.Below(vars)))
			}
		}
		c.Ends = append(c.Ends, len(c.Lits))
	}
	return c
}

// The lines of circuits.
func input(name string) api.Gate { return api.Gate{Kind: api.GaInput, Name: name} }

func gate(name string, op, a, b int) api.Gate {
	return api.Gate{Kind: api.GaGate, Name: name, Op: op, A: a, B: b}
}

func latch(name string, a int) api.Gate { return api.Gate{Kind: api.GaLatch, Name: name, A: a} }

func mux(name string, a, b, c int) api.Gate {
	return api.Gate{Kind: api.GaMux, Name: name, A: a, B: b, C: c}
}

func net(gates ...api.Gate) api.Circuit { return api.Circuit{Name: "c", Gates: gates} }

func nth(i int) string { return "g" + strconv.Itoa(i) }

// circuit is one with so many inputs, latches, gates and multiplexers, in any order: what leans leans on lines that are ahead of it in an order of its own.
func (d *dice) circuit(inputs, latches, others int) api.Circuit {
	all := inputs + latches + others
	c := api.Circuit{Name: "c", Gates: make([]api.Gate, all)}
	places := d.Some(all, all)
	for i, place := range places {
		to := func() int { return places[d.Below(max(1, i))] }
		switch {
		case i < inputs:
			c.Gates[place] = input(nth(i))
		case i < inputs+latches:
			c.Gates[place] = latch(nth(i), d.Below(all))
		default:
			c.Gates[place] = of(d, gate(nth(i), d.Below(16), to(), to()), gate(nth(i), of(d, 6, 8, 9, 14), to(), to()), gate(nth(i), of(d, 6, 8, 9, 14), to(), places[i-1]), mux(nth(i), to(), to(), to()))
		}
	}
	return c
}

// turned is a circuit with its lines in another order: at each place the line that was at from.
func turned(c api.Circuit, from []int) (api.Circuit, []int) {
	to := make([]int, len(from))
	for i, f := range from {
		to[f] = i
	}
	out := api.Circuit{Name: c.Name}
	for _, f := range from {
		g := c.Gates[f]
		switch g.Kind {
		case api.GaMux:
			g.A, g.B, g.C = to[g.A], to[g.B], to[g.C]
		case api.GaGate:
			g.A, g.B = to[g.A], to[g.B]
		case api.GaLatch:
			g.A = to[g.A]
		}
		out.Gates = append(out.Gates, g)
	}
	return out, to
}

// formed looks that a test's own values are what they should be.
func (d deed) formed(t *testing.T, ok bool) deed {
	t.Helper()
	if !ok {
		t.Fatalf("%s: not formed", d.what)
	}
	return d
}

// anyFormula is Formula of one, over n levels, with a list of levels that may be longer than it must be.
func (d *dice) anyFormula(t *testing.T, n, nodes int) deed {
	t.Helper()
	f := d.formula(nodes, max(1, n))
	if n == 0 {
		f = []api.Fnode{{Op: api.FoConst, N: d.Below(2)}}
	}
	need, e := formula.Vars(f)
	return ofFormula(n, f, d.Some(n, need+d.Below(n-need+1))).formed(t, e == api.OK)
}

func (d *dice) anyCnf(t *testing.T, n int) deed {
	t.Helper()
	vars := d.Below(n + 1)
	c := d.cnf(vars, d.Below(7), d.Below(2), 4)
	return ofCnf(n, c, d.Some(n, vars+d.Below(n-vars+1))).formed(t, formula.FormedCnf(c))
}

func (d *dice) anyLine(t *testing.T, n int) deed {
	t.Helper()
	c := d.circuit(1+d.Below(n), 0, d.Below(9))
	if n > 1 {
		c = d.circuit(d.Below(n-1), 1+d.Below(2), d.Below(9))
	}
	return ofLine(t, n, c, d.Below(len(c.Gates)), d.Some(n, points(c))).formed(t, circuit.Formed(c))
}

func (d *dice) anyRelation(t *testing.T, n int) deed {
	t.Helper()
	latches := d.Below(n/2 + 1)
	inputs := d.Below(4)
	others := d.Below(9)
	if latches+inputs == 0 {
		others = 0
	}
	c := d.circuit(inputs, latches, others)
	levels := d.Some(n, 2*latches)
	return ofRelation(t, n, c, levels[:latches], levels[latches:]).formed(t, circuit.Formed(c))
}

// deeds are one of each call, over n levels (at least one).
func (d *dice) deeds(t *testing.T, n int) []deed {
	t.Helper()
	return []deed{d.anyFormula(t, n, 1+d.Below(20)), d.anyCnf(t, n), ofTable(n, d.Table(n)), d.anyLine(t, n), d.anyRelation(t, n)}
}
