package circuit_test

import (
	"fmt"
	"math"
	"slices"
	"strconv"
	"strings"
	"testing"

	"strata/api"
	"strata/circuit"
)

// isNet: whether a value is a circuit, told by each call (P14.2 to P14.7).
func isNet(t *testing.T, c api.Circuit, want bool) {
	t.Helper()
	if circuit.Formed(c) != want {
		t.Errorf("Formed of %.300v: %v", fmt.Sprint(c), !want)
	}
	inputs, latches := make([]bool, len(ofKind(c, api.GaInput))), make([]bool, len(ofKind(c, api.GaLatch)))
	text, e1 := circuit.Print(c)
	outs, next, e2 := circuit.Step(c, inputs, latches)
	first, e3 := circuit.First(c)
	steps, e4 := circuit.Run(c, [][]bool{inputs})
	for i, e := range []api.Errno{e1, e2, e3, e4} {
		if (e == api.ErrNet) == want || e != api.ErrNet && e != api.OK && e != api.ErrLong {
			t.Errorf("call %d of %.300v: %d", i, fmt.Sprint(c), e)
		}
	}
	cone, e := circuit.Cone(c, 0)
	if !want && e != api.ErrNet || want && e == api.ErrNet {
		t.Errorf("Cone of %.300v: %d", fmt.Sprint(c), e)
	}
	if !want && len(text)+len(outs)+len(next)+len(first)+len(steps)+len(cone) > 0 {
		t.Errorf("beside ErrNet: %q %v %v %v %v %v", text, outs, next, first, steps, cone)
	}
}

// with is a circuit with something changed.
func with(c api.Circuit, change func(*api.Circuit)) api.Circuit {
	c.Gates, c.Outs = slices.Clone(c.Gates), slices.Clone(c.Outs)
	change(&c)
	return c
}

// TestFields: each number of each kind of line at its edges (P14.3).
func TestFields(t *testing.T) {
	base := net([]int{0, 3, 3}, input("i"), gate("g", 8, 0, 2), latch("l", 1, 1), mux("m", 0, 1, 2), gate("h", 15, 0, 0))
	isNet(t, base, true)
	set := map[string]func(*api.Gate, int){
		"Op": func(g *api.Gate, n int) { g.Op = n },
		"A":  func(g *api.Gate, n int) { g.A = n },
		"B":  func(g *api.Gate, n int) { g.B = n },
		"C":  func(g *api.Gate, n int) { g.C = n },
	}
	most := []map[string]int{ // by line: the greatest number that a field may have beside 0
		{}, {"Op": 15, "A": 4, "B": 4}, {"Op": 1, "A": 4}, {"A": 4, "B": 4, "C": 4}, {"Op": 15, "A": 4, "B": 4},
	}
	for place := range base.Gates {
		for field, put := range set {
			for _, n := range []int{math.MinInt, -2, -1, 0, 1, 2, 3, 4, 5, 6, 15, 16, 17, 1 << 20, 1 << 32, math.MaxInt} {
				c := with(base, func(c *api.Circuit) { put(&c.Gates[place], n) })
				isNet(t, c, n >= 0 && n <= most[place][field] && !inCircle(c))
			}
		}
	}
}

// inCircle tells whether a circuit has a circle.
func inCircle(c api.Circuit) bool {
	for i, row := range modelLeads(c.Gates) {
		if row[i] {
			return true
		}
	}
	return false
}

// TestKinds: a line of no other fields is an input, a latch at itself, and nothing else if it is alone (P14.3).
func TestKinds(t *testing.T) {
	for kind := -2; kind < 8; kind++ {
		g := api.Gate{Kind: kind, Name: "a"}
		isNet(t, net(nil, g), kind == api.GaInput || kind == api.GaLatch)
		isNet(t, net(nil, input("i"), g), kind >= 1 && kind <= 4)
	}
	for _, kind := range []int{math.MinInt, math.MaxInt, 1 << 32, 1<<32 + 1} {
		isNet(t, net(nil, api.Gate{Kind: kind, Name: "a"}), false)
	}
}

// TestListsOfACircuit: names, outs, no lines at all (P14.3).
func TestListsOfACircuit(t *testing.T) {
	for _, x := range []struct {
		c    api.Circuit
		want bool
	}{
		{api.Circuit{}, false},
		{api.Circuit{Name: "c"}, true},
		{api.Circuit{Gates: []api.Gate{input("a")}}, false},
		{api.Circuit{Name: "a b", Gates: []api.Gate{input("a")}}, false},
		{api.Circuit{Name: "c", Gates: []api.Gate{}, Outs: []int{}}, true},
		{net([]int{0}), false},
		{net([]int{-1}), false},
		{net([]int{0, 0, 0}, input("a")), true},
		{net([]int{1}, input("a")), false},
		{net([]int{0, -1}, input("a")), false},
		{net([]int{math.MinInt}, input("a")), false},
		{net([]int{math.MaxInt}, input("a")), false},
		{net(nil, input("")), false},
		{net(nil, input("a"), input("b"), input("a")), false},
		{net(nil, input("a"), latch("a", 0, 0)), false},
		{net(nil, input("c")), true},
		{net(nil, input("a"), input("A")), true},
		{net(nil, input("a\n")), false},
		{net(nil, input("a#")), false},
	} {
		isNet(t, x.c, x.want)
	}
}

// TestTooManyLines: MaxGates lines and outs are let in, one more of either is not (P14.3).
func TestTooManyLines(t *testing.T) {
	c := chain(api.MaxGates+1, false)
	isNet(t, c, false)
	c.Gates, c.Outs = c.Gates[:api.MaxGates], make([]int, api.MaxGates)
	isNet(t, c, true)
	c.Outs = append(c.Outs, 0)
	isNet(t, c, false)
	c.Gates = c.Gates[:1]
	isNet(t, c, false)
}

// TestFormedAgainstTheModel: circuits with and without circles, with numbers changed here and there (P14.3).
func TestFormedAgainstTheModel(t *testing.T) {
	d := newDice(4)
	circles := 0
	for range 6000 {
		c := d.any(1 + d.Below(8))
		want := !inCircle(c)
		if !want {
			circles++
		}
		isNet(t, c, want)
	}
	if circles < 1000 || circles > 5000 {
		t.Errorf("%d circles", circles)
	}
}

// TestPrint: the one text, in the order of Gates, then of Outs (P14.2).
func TestPrint(t *testing.T) {
	c := net([]int{2, 0, 2}, mux("m", 3, 2, 1), latch("l", 1, 0), gate("g", api.OpRev, 1, 3), input("i"), latch("k", 0, 4))
	const want = "circuit c\nmux m i g l\nlatch l 1 m\ngate g rev l i\ninput i\nlatch k 0 k\noutput g\noutput m\noutput g\nend\n"
	if text := printed(t, c); text != want {
		t.Errorf("%q", text)
	}
	if text := printed(t, net(nil)); text != "circuit c\nend\n" {
		t.Errorf("%q", text)
	}
}

// TestPrintedAndRead: a circuit that is printed and read is the same, and so is its text (P14.2, W11).
func TestPrintedAndRead(t *testing.T) {
	d := newDice(5)
	for range 3000 {
		c := d.formed(d.Below(12))
		text := printed(t, c)
		if text != loosePrint(c) {
			t.Fatalf("%v: %q", c, text)
		}
		if again := parsed(t, text); !same(again, c) || printed(t, again) != text {
			t.Fatalf("%q: %v, want %v", text, again, c)
		}
	}
}

// TestPrintTooLong: a text of MaxText bytes is told and can be read, one of a byte more is not told (P14.2).
func TestPrintTooLong(t *testing.T) {
	c := api.Circuit{Name: "c"}
	left := api.MaxText - len("circuit c\nend\n")
	for i := 0; left > 0; i++ {
		name := "n" + strconv.Itoa(i)
		length := min(left-len("input \n"), 32)
		if rest := left - len("input \n") - length; rest > 0 && rest < 20 {
			length -= 20 // so that the last line has room for a name
		}
		c.Gates = append(c.Gates, input(name+strings.Repeat("x", length-len(name))))
		left -= len("input \n") + length
	}
	text := printed(t, c)
	if len(text) != api.MaxText || !same(parsed(t, text), c) {
		t.Fatalf("%d bytes", len(text))
	}
	c.Name = "cc"
	if text, e := circuit.Print(c); text != "" || e != api.ErrLong {
		t.Errorf("%d bytes, %d", len(text), e)
	}
	c.Gates[0].A = 1
	if text, e := circuit.Print(c); text != "" || e != api.ErrNet {
		t.Errorf("%d bytes, %d", len(text), e)
	}
}
