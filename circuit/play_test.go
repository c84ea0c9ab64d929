package circuit_test

import (
	"slices"
	"strconv"
	"testing"

	"strata/api"
	"strata/circuit"
)

// stepped is what a step answers that is not refused.
func stepped(t *testing.T, c api.Circuit, inputs, latches []bool) (outs, next []bool) {
	t.Helper()
	outs, next, e := circuit.Step(c, inputs, latches)
	if e != api.OK {
		t.Fatalf("%v: %d", c, e)
	}
	return outs, next
}

func ran(t *testing.T, c api.Circuit, inputs [][]bool) [][]bool {
	t.Helper()
	outs, e := circuit.Run(c, inputs)
	if e != api.OK || len(outs) != len(inputs) {
		t.Fatalf("%v: %v %d", c, outs, e)
	}
	return outs
}

func firsts(t *testing.T, c api.Circuit) []bool {
	t.Helper()
	first, e := circuit.First(c)
	if e != api.OK {
		t.Fatalf("%v: %d", c, e)
	}
	return first
}

func cone(t *testing.T, c api.Circuit, place int) []int {
	t.Helper()
	list, e := circuit.Cone(c, place)
	if e != api.OK {
		t.Fatalf("%v: %d", c, e)
	}
	return list
}

// steps are so many lists of truths of the inputs.
func (d *dice) steps(c api.Circuit, many int) [][]bool {
	var out [][]bool
	for range many {
		out = append(out, d.truths(len(ofKind(c, api.GaInput))))
	}
	return out
}

// TestValues: each operator, a multiplexer, points that go out at once (P14.4).
func TestValues(t *testing.T) {
	for x := range 8 {
		in := []bool{x&4 > 0, x&2 > 0, x&1 > 0}
		for op := range 16 {
			c := net([]int{2}, input("a"), input("b"), gate("g", op, 0, 1))
			if outs, next := stepped(t, c, in[:2], nil); !slices.Equal(outs, []bool{op>>(x>>1)&1 == 1}) || len(next) > 0 {
				t.Errorf("operator %d of %v: %v", op, in, outs)
			}
		}
		c := net([]int{3}, input("a"), input("b"), input("c"), mux("m", 0, 1, 2))
		want := in[2]
		if in[0] {
			want = in[1]
		}
		if outs, _ := stepped(t, c, in, nil); !slices.Equal(outs, []bool{want}) {
			t.Errorf("mux of %v: %v", in, outs)
		}
		c = net([]int{1, 0, 1, 2}, latch("l", 0, 1), input("a"), latch("k", 1, 0))
		outs, next := stepped(t, c, in[:1], in[1:])
		if !slices.Equal(outs, []bool{in[0], in[1], in[0], in[2]}) || !slices.Equal(next, []bool{in[0], in[1]}) {
			t.Errorf("points %v: %v %v", in, outs, next)
		}
	}
}

// TestPlayedAgainstTheModel: Step, First, Run and Cone of circuits of all forms (P14.4 to P14.7).
func TestPlayedAgainstTheModel(t *testing.T) {
	d := newDice(6)
	for range 3000 {
		c := d.formed(d.Below(12))
		latches := make([]bool, 0)
		for _, place := range ofKind(c, api.GaLatch) {
			latches = append(latches, c.Gates[place].Op == 1)
		}
		if first := firsts(t, c); !slices.Equal(first, latches) {
			t.Fatalf("%v: %v", c, first)
		}
		steps := d.steps(c, d.Below(6))
		outs := ran(t, c, steps)
		for i, inputs := range steps {
			want, wantNext := modelStep(c, inputs, latches)
			got, next := stepped(t, c, inputs, latches)
			if !slices.Equal(got, want) || !slices.Equal(next, wantNext) || !slices.Equal(outs[i], want) {
				t.Fatalf("%v, %v, %v: %v %v %v, want %v %v", c, inputs, latches, got, next, outs[i], want, wantNext)
			}
			latches = next
		}
		leads := modelLeads(c.Gates)
		for place := range c.Gates {
			var want []int
			for other := range c.Gates {
				if other == place || leads[place][other] {
					want = append(want, other)
				}
			}
			if got := cone(t, c, place); !slices.Equal(got, want) {
				t.Fatalf("%v: Cone(%d): %v, want %v", c, place, got, want)
			}
		}
	}
}

// TestWrongLists: lists that have not a truth for each, and places that are none; ErrNet is ahead of them (P14.4, P14.6, P14.7, G5).
func TestWrongLists(t *testing.T) {
	c := theTwo()
	for inputs := range 4 {
		for latches := range 5 {
			outs, next, e := circuit.Step(c, make([]bool, inputs), make([]bool, latches))
			right := inputs == 1 && latches == 2
			if (e == api.OK) != right || e != api.OK && (e != api.ErrArg || len(outs)+len(next) > 0) {
				t.Errorf("%d, %d: %v %v %d", inputs, latches, outs, next, e)
			}
		}
	}
	one := []bool{true}
	for _, steps := range [][][]bool{{nil}, {{}}, {one, one, nil}, {nil, one}, {one, {true, true}, one}, {{true, true}}} {
		if outs, e := circuit.Run(c, steps); e != api.ErrArg || len(outs) > 0 {
			t.Errorf("%v: %v %d", steps, outs, e)
		}
	}
	for _, place := range []int{-1, 6, 7, -1 << 63, 1<<63 - 1} {
		if list, e := circuit.Cone(c, place); e != api.ErrArg || len(list) > 0 {
			t.Errorf("Cone(%d): %v %d", place, list, e)
		}
	}
	if list, e := circuit.Cone(net(nil), 0); e != api.ErrArg || len(list) > 0 {
		t.Errorf("Cone of nothing: %v %d", list, e)
	}
	c.Outs = []int{6}
	_, _, e1 := circuit.Step(c, nil, nil)
	_, e2 := circuit.Run(c, [][]bool{nil})
	_, e3 := circuit.Cone(c, -1)
	if e1 != api.ErrNet || e2 != api.ErrNet || e3 != api.ErrNet {
		t.Errorf("%d %d %d", e1, e2, e3)
	}
}

// TestNoTruths: circuits without inputs, latches or outs are played too (P14.4 to P14.6, G4).
func TestNoTruths(t *testing.T) {
	c := net(nil)
	if outs, next := stepped(t, c, nil, []bool{}); len(outs)+len(next)+len(firsts(t, c)) > 0 {
		t.Errorf("%v %v", outs, next)
	}
	for _, outs := range ran(t, c, [][]bool{nil, {}, nil}) {
		if len(outs) > 0 {
			t.Errorf("%v", outs)
		}
	}
	if outs := ran(t, c, nil); len(outs) > 0 {
		t.Errorf("%v", outs)
	}
	c = net([]int{0}, latch("l", 1, 1), gate("n", api.OpNotA, 0, 0))
	if outs := ran(t, c, make([][]bool, 4)); !slices.EqualFunc(outs, [][]bool{{true}, {false}, {true}, {false}}, slices.Equal) {
		t.Errorf("%v", outs)
	}
}

// TestOrderOfTheLines: with Gates in another order, the points as they are among themselves, the answers are the same (P14.8).
func TestOrderOfTheLines(t *testing.T) {
	d := newDice(7)
	for range 1500 {
		c := d.formed(1 + d.Below(12))
		from := d.Some(len(c.Gates), len(c.Gates))
		for _, kind := range []int{api.GaInput, api.GaLatch} {
			var spots []int
			for i, f := range from {
				if c.Gates[f].Kind == kind {
					spots = append(spots, i)
				}
			}
			for i, place := range ofKind(c, kind) {
				from[spots[i]] = place
			}
		}
		other := turned(c, from)
		steps := d.steps(c, 5)
		if a, b := ran(t, c, steps), ran(t, other, steps); !slices.EqualFunc(a, b, slices.Equal) {
			t.Fatalf("%v and %v: %v and %v", c, other, a, b)
		}
		latches := d.truths(len(ofKind(c, api.GaLatch)))
		for _, inputs := range steps {
			outs, next := stepped(t, c, inputs, latches)
			outs2, next2 := stepped(t, other, inputs, latches)
			if !slices.Equal(outs, outs2) || !slices.Equal(next, next2) {
				t.Fatalf("%v and %v: %v %v and %v %v", c, other, outs, next, outs2, next2)
			}
		}
	}
}

// TestOutsideTheCones: what is in no cone bears on nothing (P14.9).
func TestOutsideTheCones(t *testing.T) {
	d := newDice(8)
	for range 1500 {
		c := d.formed(1 + d.Below(10))
		var sources []int
		for _, place := range ofKind(c, api.GaLatch) {
			sources = append(sources, c.Gates[place].A)
		}
		heard := map[int]bool{}
		for _, place := range append(slices.Clone(c.Outs), sources...) {
			for _, line := range cone(t, c, place) {
				heard[line] = true
			}
		}
		other := with(c, func(o *api.Circuit) {
			for place, g := range o.Gates {
				if g.Kind == api.GaGate && !heard[place] {
					o.Gates[place].Op = 15 - g.Op
				}
			}
		})
		inputs, latches := d.truths(len(ofKind(c, api.GaInput))), d.truths(len(ofKind(c, api.GaLatch)))
		outs, next := stepped(t, c, inputs, latches)
		outs2, next2 := stepped(t, other, inputs, latches)
		if !slices.Equal(outs, outs2) || !slices.Equal(next, next2) {
			t.Fatalf("%v and %v: %v %v and %v %v", c, other, outs, next, outs2, next2)
		}
		for i, place := range append(slices.Clone(c.Outs), sources...) {
			mine := cone(t, c, place)
			out3, next3 := stepped(t, c, turnedOutside(c, api.GaInput, inputs, mine), turnedOutside(c, api.GaLatch, latches, mine))
			if was, is := append(outs, next...)[i], append(out3, next3...)[i]; was != is {
				t.Fatalf("%v: %d hangs on more than %v", c, place, mine)
			}
		}
	}
}

// turnedOutside are the truths of the points of a kind, the opposite ones outside a cone.
func turnedOutside(c api.Circuit, kind int, truths []bool, cone []int) []bool {
	out := slices.Clone(truths)
	for i, place := range ofKind(c, kind) {
		if !slices.Contains(cone, place) {
			out[i] = !out[i]
		}
	}
	return out
}

// TestOneRunBehindTheOther: a run of two lists of steps is a run of the first, and steps from there (P14.10).
func TestOneRunBehindTheOther(t *testing.T) {
	d := newDice(9)
	for range 500 {
		c := d.formed(d.Below(12))
		one, two := d.steps(c, d.Below(5)), d.steps(c, d.Below(5))
		outs := ran(t, c, one)
		latches := firsts(t, c)
		for _, inputs := range one {
			_, latches = stepped(t, c, inputs, latches)
		}
		for _, inputs := range two {
			out, next := stepped(t, c, inputs, latches)
			outs, latches = append(outs, out), next
		}
		if all := ran(t, c, append(slices.Clone(one), two...)); !slices.EqualFunc(all, outs, slices.Equal) {
			t.Fatalf("%v: %v, want %v", c, all, outs)
		}
	}
}

// TestLargeCircuits: circuits of MaxGates lines that lean on one another through all of them, by as many ways as there can be (P14.1 to P14.7: the time is about as the circuit is large).
func TestLargeCircuits(t *testing.T) {
	const lines = api.MaxGates
	for _, down := range []bool{false, true} {
		c := chain(lines, down)
		last, first := c.Outs[0], ofKind(c, api.GaInput)[0]
		if !circuit.Formed(c) || len(cone(t, c, last)) != lines || !slices.Equal(cone(t, c, first), []int{first}) {
			t.Fatal("the chain's cones")
		}
		want := [][]bool{{fibonacci(lines)}, {false}, {fibonacci(lines)}}
		if outs := ran(t, c, [][]bool{{true}, {false}, {true}}); !slices.EqualFunc(outs, want, slices.Equal) {
			t.Errorf("%v, want %v", outs, want)
		}
		bent := with(c, func(c *api.Circuit) { c.Gates[(first+lines/2)%lines].A = last })
		if circuit.Formed(bent) {
			t.Error("a circle over half of the chain is let in")
		}
	}
}

// fibonacci is the truth of the last of so many lines of a chain, if its input is true: each one is the xor of the two ahead of it (the second that of the first with itself).
func fibonacci(lines int) bool {
	a, b := true, false
	for range lines - 2 {
		a, b = b, a != b
	}
	return b
}

// TestManySteps: a run of many steps keeps to the latches' values (P14.6).
func TestManySteps(t *testing.T) {
	c := net([]int{0, 1, 2, 3})
	for i := range 4 {
		c.Gates = append(c.Gates, latch("l"+strconv.Itoa(i), 0, 4+i))
	}
	c.Gates = append(c.Gates, gate("n0", api.OpNotA, 0, 0), gate("n1", api.OpXor, 1, 0), gate("n2", api.OpXor, 2, 8), gate("n3", api.OpXor, 3, 9), gate("c1", api.OpAnd, 0, 1), gate("c2", api.OpAnd, 8, 2))
	for i, out := range ran(t, c, make([][]bool, 40000)) {
		for bit := range out {
			if out[bit] != (i>>bit&1 == 1) {
				t.Fatalf("step %d: %v", i, out)
			}
		}
	}
}
