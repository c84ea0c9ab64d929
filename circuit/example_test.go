package circuit_test

import (
	"slices"
	"testing"

	"strata/api"
	"strata/circuit"
)

// theTwo is what the chapter says of the text two.
func theTwo() api.Circuit {
	return api.Circuit{Name: "two", Gates: []api.Gate{
		input("go"), latch("a", 0, 3), latch("b", 0, 5),
		gate("na", api.OpXor, 1, 0), gate("c", api.OpAnd, 1, 0), gate("nb", api.OpXor, 2, 4),
	}, Outs: []int{1, 2}}
}

// TestExamplesOfTwo: the chapter's examples of the circuit two (P14.1, P14.2, P14.4 to P14.7).
func TestExamplesOfTwo(t *testing.T) {
	c := parsed(t, two)
	if !same(c, theTwo()) || !circuit.Formed(c) || printed(t, c) != two {
		t.Fatalf("%v", c)
	}
	const f, v = false, true
	outs, e := circuit.Run(c, [][]bool{{v}, {v}, {v}, {v}, {v}})
	want := [][]bool{{f, f}, {v, f}, {f, v}, {v, v}, {f, f}}
	if e != api.OK || !slices.EqualFunc(outs, want, slices.Equal) {
		t.Errorf("Run: %v %d", outs, e)
	}
	out, next, e := circuit.Step(c, []bool{v}, []bool{v, f})
	if e != api.OK || !slices.Equal(out, []bool{v, f}) || !slices.Equal(next, []bool{f, v}) {
		t.Errorf("Step: %v %v %d", out, next, e)
	}
	if first, e := circuit.First(c); e != api.OK || !slices.Equal(first, []bool{f, f}) {
		t.Errorf("First: %v %d", first, e)
	}
	for place, want := range map[int][]int{4: {0, 1, 4}, 1: {1}, 5: {0, 1, 2, 4, 5}} {
		if cone, e := circuit.Cone(c, place); e != api.OK || !slices.Equal(cone, want) {
			t.Errorf("Cone(%d): %v %d", place, cone, e)
		}
	}
}

// TestExamplesOfFaults: the chapter's examples of texts that are refused (P14.1).
func TestExamplesOfFaults(t *testing.T) {
	allRefused(t, []wrong{
		{"", at(api.ErrLine, 1, 1)},
		{"circuit c", at(api.ErrLine, 1, 10)},
		{"circuit 1c\nend", at(api.ErrLine, 1, 9)},
		{"circuit c\ninput a\ninput a\nend", at(api.ErrTwice, 3, 7)},
		{"circuit c\ngate a and a\nend", at(api.ErrLine, 2, 13)},
		{"circuit c\ngate a and b b\nend", at(api.ErrUndef, 2, 12)},
		{"circuit c\ngate a and a a\nend", at(api.ErrCircle, 2, 6)},
		{"circuit c\nlatch a 2 a\nend", at(api.ErrLine, 2, 9)},
		{"circuit c\nend\noutput a", at(api.ErrLine, 3, 1)},
		{"circuit c\noutput", at(api.ErrLine, 2, 7)},
		{"circuit c\noutput a b\nend", at(api.ErrLine, 2, 10)},
		{"circuit c\ngate a and b b\ngate x xx a a\nend", at(api.ErrLine, 3, 8)},
	})
}

// TestExamplesOfTexts: the chapter's other examples (P14.1, P14.2).
func TestExamplesOfTexts(t *testing.T) {
	if c := parsed(t, "circuit c\nlatch a 0 a\nend"); !same(c, net(nil, latch("a", 0, 0))) {
		t.Errorf("%v", c)
	}
	if text := printed(t, parsed(t, "circuit  c # so\n\n input i\nend")); text != "circuit c\ninput i\nend\n" {
		t.Errorf("%q", text)
	}
}
