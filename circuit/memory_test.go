package circuit_test

import (
	"slices"
	"testing"

	"strata/api"
	"strata/circuit"
)

// spared is a circuit whose lists have more behind them.
func spared(c api.Circuit) api.Circuit {
	c.Gates, c.Outs = spare(c.Gates, input("a")), spare(c.Outs, 0)
	return c
}

// whole is a circuit with the spare room of its lists.
func whole(c api.Circuit) api.Circuit {
	return api.Circuit{Name: c.Name, Gates: slices.Clone(c.Gates[:cap(c.Gates)]), Outs: slices.Clone(c.Outs[:cap(c.Outs)])}
}

// TestHandedIn: what is handed in stays as it is, its spare room too, and what is behind a list is not looked at (G2, G3).
func TestHandedIn(t *testing.T) {
	d := newDice(10)
	for range 500 {
		plain := d.formed(1 + d.Below(9))
		c := spared(plain)
		was := whole(c)
		inputs, latches := spare(d.truths(len(ofKind(c, api.GaInput))), true), spare(d.truths(len(ofKind(c, api.GaLatch))), true)
		wasInputs, wasLatches := slices.Clone(inputs[:cap(inputs)]), slices.Clone(latches[:cap(latches)])
		steps := spare([][]bool{inputs, inputs}, nil)
		outs, next := stepped(t, c, inputs, latches)
		outs2, next2 := stepped(t, plain, slices.Clip(inputs), slices.Clip(latches))
		if !slices.Equal(outs, outs2) || !slices.Equal(next, next2) {
			t.Fatalf("%v: %v %v, %v %v", plain, outs, next, outs2, next2)
		}
		ran(t, c, steps)
		firsts(t, c)
		for place := range c.Gates {
			cone(t, c, place)
		}
		if !circuit.Formed(c) || printed(t, c) != printed(t, plain) {
			t.Fatalf("%v is not what it is", plain)
		}
		if !same(whole(c), was) || !slices.Equal(inputs[:cap(inputs)], wasInputs) || !slices.Equal(latches[:cap(latches)], wasLatches) {
			t.Fatalf("%v has been changed", plain)
		}
		if behind := steps[:cap(steps)]; behind[2] != nil || behind[3] != nil {
			t.Fatal("the list of steps has been changed")
		}
	}
}

// scribble writes over a list and its spare room.
func scribble[T any](list []T, with T) {
	list = list[:cap(list)]
	for i := range list {
		list[i] = with
	}
}

// TestParsed: the lists of a circuit that is read are new, each one of its own (G3).
func TestParsed(t *testing.T) {
	one, other := parsed(t, two), parsed(t, two)
	scribble(one.Gates, input("zz"))
	if !slices.Equal(one.Outs, []int{1, 2}) || !same(other, theTwo()) {
		t.Errorf("%v %v", one, other)
	}
	scribble(one.Outs, 7)
	if !same(other, theTwo()) || !same(parsed(t, two), theTwo()) {
		t.Errorf("%v", other)
	}
}

// TestAnswered: the lists that are answered are new, each one of its own, with its spare room; nothing is kept of what was handed in (G3).
func TestAnswered(t *testing.T) {
	c := net([]int{0, 1, 2}, latch("a", 1, 2), latch("b", 0, 0), input("i"), gate("g", api.OpOr, 0, 2))
	inputs, latches := []bool{true}, []bool{true, false}
	outs, next := stepped(t, c, inputs, latches)
	scribble(outs, false)
	if !slices.Equal(next, []bool{true, true}) || !inputs[0] || !latches[0] {
		t.Errorf("Step: %v %v %v", next, inputs, latches)
	}
	scribble(next, false)
	if !inputs[0] || !latches[0] {
		t.Errorf("Step: %v %v", inputs, latches)
	}
	steps := [][]bool{inputs, inputs, inputs}
	all, again := ran(t, c, steps), ran(t, c, steps)
	want := ran(t, c, steps)
	for i := range all {
		scribble(all[i], i%2 == 0)
		for j := i + 1; j < len(all); j++ {
			if !slices.Equal(all[j], want[j]) {
				t.Errorf("Run: %d is written over with %d", j, i)
			}
		}
	}
	scribble(all, nil)
	if !slices.EqualFunc(again, want, slices.Equal) || !inputs[0] {
		t.Errorf("Run: %v, want %v", again, want)
	}
	first := firsts(t, c)
	scribble(first, false)
	list := cone(t, c, 3)
	scribble(list, 9)
	if !slices.Equal(firsts(t, c), []bool{true, false}) || !slices.Equal(cone(t, c, 3), []int{0, 2, 3}) {
		t.Errorf("First, Cone: %v %v", firsts(t, c), cone(t, c, 3))
	}
}
