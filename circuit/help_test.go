package circuit_test

import (
	"slices"
	"strconv"
	"strings"
	"testing"

	"strata/api"
	"strata/bench"
	"strata/circuit"
)

const two = "circuit two\ninput go\nlatch a 0 na\nlatch b 0 nb\ngate na xor a go\ngate c and a go\ngate nb xor b c\noutput a\noutput b\nend\n"

// at is a fault at a place.
func at(code api.Errno, line, col int) api.Fault {
	return api.Fault{Code: code, At: api.Pos{Line: line, Col: col}}
}

// parsed is the circuit of a text that has no fault.
func parsed(t *testing.T, text string) api.Circuit {
	t.Helper()
	c, fault := circuit.Parse(text)
	if fault != (api.Fault{}) {
		t.Fatalf("%.200q: %v", text, fault)
	}
	return c
}

// refuses: Parse answers no circuit and a fault.
func refuses(t *testing.T, text string, want api.Fault) {
	t.Helper()
	c, fault := circuit.Parse(text)
	if fault != want || c.Name != "" || len(c.Gates) > 0 || len(c.Outs) > 0 {
		t.Errorf("%.200q: %v %v, want %v", text, c, fault, want)
	}
}

// wrong is a text with a fault.
type wrong struct {
	text string
	want api.Fault
}

func allRefused(t *testing.T, texts []wrong) {
	t.Helper()
	for _, x := range texts {
		refuses(t, x.text, x.want)
	}
}

// same tells whether two circuits are the same; a nil list and an empty one are.
func same(a, b api.Circuit) bool {
	return a.Name == b.Name && slices.Equal(a.Gates, b.Gates) && slices.Equal(a.Outs, b.Outs)
}

// spare is a list with more behind it.
func spare[T any](list []T, more T) []T {
	return append(slices.Clone(list), more, more)[:len(list)]
}

// The lines of circuits.
func input(name string) api.Gate { return api.Gate{Kind: api.GaInput, Name: name} }

func gate(name string, op, a, b int) api.Gate {
	return api.Gate{Kind: api.GaGate, Name: name, Op: op, A: a, B: b}
}

func latch(name string, first, a int) api.Gate {
	return api.Gate{Kind: api.GaLatch, Name: name, Op: first, A: a}
}

func mux(name string, a, b, c int) api.Gate {
	return api.Gate{Kind: api.GaMux, Name: name, A: a, B: b, C: c}
}

func net(outs []int, gates ...api.Gate) api.Circuit {
	return api.Circuit{Name: "c", Gates: gates, Outs: outs}
}

// dice make circuits and texts that are the same in each run.
type dice struct{ bench.Dice }

func newDice(seed uint64) *dice { return &dice{bench.Dice(seed)} }

// of is one of several.
func of[T any](d *dice, all ...T) T { return all[d.Below(len(all))] }

func (d *dice) truths(n int) []bool {
	list := make([]bool, n)
	for i := range list {
		list[i] = d.Below(2) == 1
	}
	return list
}

// any is a circuit of so many lines that may have circles.
func (d *dice) any(lines int) api.Circuit {
	names := d.names(lines)
	c := api.Circuit{Name: of(d, "c", "circuit", "a", "_.9")}
	for _, name := range names {
		to := func() int { return d.Below(lines) }
		c.Gates = append(c.Gates, of(d, input(name), input(name), latch(name, d.Below(2), to()), mux(name, to(), to(), to()), gate(name, d.Below(16), to(), to())))
	}
	for range d.Below(4) {
		if lines > 0 {
			c.Outs = append(c.Outs, d.Below(lines))
		}
	}
	return c
}

// names are so many, some of which are words of the text too.
func (d *dice) names(many int) []string {
	list := []string{"input", "end", "and", "a", "b", "x1", "one", "latch", "_", "A.", "a_", strings.Repeat("z", 32)}
	for i := len(list); i < many; i++ {
		list = append(list, "g"+strconv.Itoa(i))
	}
	for i := range list {
		j := d.Below(i + 1)
		list[i], list[j] = list[j], list[i]
	}
	return list[:many]
}

// formed is a circuit of so many lines: what leans leans on lines that are ahead of it in an order of its own.
func (d *dice) formed(lines int) api.Circuit {
	c := d.any(lines)
	order := d.Some(lines, lines)
	for i, place := range order {
		g := &c.Gates[place]
		if g.Kind != api.GaGate && g.Kind != api.GaMux {
			continue
		}
		if i == 0 {
			*g = input(g.Name)
			continue
		}
		g.A, g.B = order[d.Below(i)], order[d.Below(i)]
		if g.Kind == api.GaMux {
			g.C = order[d.Below(i)]
		}
	}
	return c
}

// printed is a circuit's text.
func printed(t *testing.T, c api.Circuit) string {
	t.Helper()
	text, e := circuit.Print(c)
	if e != api.OK {
		t.Fatalf("%v: %d", c, e)
	}
	return text
}

// chain is a circuit in which each line leans on the two ahead of it; it has so many lines, in an order from the deepest or to it.
func chain(lines int, down bool) api.Circuit {
	gates := []api.Gate{input("i")}
	for i := 1; i < lines; i++ {
		gates = append(gates, gate("g"+strconv.Itoa(i), api.OpXor, i-1, max(0, i-2)))
	}
	c := api.Circuit{Name: "chain", Gates: gates, Outs: []int{lines - 1}}
	if down {
		from := make([]int, lines)
		for i := range from {
			from[i] = lines - 1 - i
		}
		c = turned(c, from)
	}
	return c
}

// turned is a circuit with its lines in another order: at each place the line that was at from.
func turned(c api.Circuit, from []int) api.Circuit {
	to := make([]int, len(from))
	for i, f := range from {
		to[f] = i
	}
	out := api.Circuit{Name: c.Name}
	for _, f := range from {
		g := c.Gates[f]
		switch g.Kind {
		case api.GaMux:
			g.A, g.B, g.C = to[g.A], to[g.B], to[g.C]
		case api.GaGate:
			g.A, g.B = to[g.A], to[g.B]
		case api.GaLatch:
			g.A = to[g.A]
		}
		out.Gates = append(out.Gates, g)
	}
	for _, o := range c.Outs {
		out.Outs = append(out.Outs, to[o])
	}
	return out
}
