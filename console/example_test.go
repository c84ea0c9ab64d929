package console_test

import (
	"slices"
	"testing"

	"strata/api"
	"strata/console"
)

// TestExamples: the chapter's table.
func TestExamples(t *testing.T) {
	c := console.New()
	is(t, c, "open 3 64 100", "", api.ErrAbout)
	for _, x := range []struct {
		line, want string
		e          api.Errno
	}{
		{"disk 64 1000", "", api.OK}, {"power", "", api.OK}, {"open 3 64 100", "", api.OK}, {"formula x0 & x1 ^ x2", "1", api.OK}, {"count 1", "4", api.OK},
		{"cube 0=1 2=0", "2", api.OK}, {"apply and 1 2", "3", api.OK}, {"first 3", "110", api.OK}, {"equal 3 2", "no", api.OK},
		{"eval 1 01", "", api.ErrArg}, {"frob 1", "", api.ErrScript}, {"var", "", api.ErrScript}, {"var x", "", api.ErrScript}, {"var 1 2", "", api.ErrScript},
		{"fault 0", "", api.OK}, {"power", "", api.OK}, {"open 3 64 100", "", api.ErrFault},
		{"open 3 64 100", "", api.OK}, {"handles", "1 2 3", api.OK},
	} {
		is(t, c, x.line, x.want, x.e)
	}
	is(t, begun(t, 0), "levels", "none", api.OK)
}

// TestExamplesOfTheWhole: DOC.md's, by lines; the records of a file are its dump.
func TestExamplesOfTheWhole(t *testing.T) {
	for _, examples := range [][][2]string{
		{{"open 2 64 100", ""}, {"formula x0 & x1", "1"}, {"dump 1", "strata 1/levels 2/nodes 2/1:0 F T/0:0 F 1:0/root 0:0/"},
			{"formula x0 ^ x1", "2"}, {"dump 2", "strata 1/levels 2/nodes 3/1:0 F T/1:1 T F/0:0 1:0 1:1/root 0:0/"},
			{"formula x0 | !x0", "3"}, {"dump 3", "strata 1/levels 2/nodes 0/root T/"}, {"count 3", "4"},
			{"apply xor 2 2", "4"}, {"dump 4", "strata 1/levels 2/nodes 0/root F/"},
			{"swap 0", ""}, {"levels", "1 0"}, {"dump 1", "strata 1/levels 2/nodes 2/1:0 F T/0:0 F 1:0/root 0:0/"}},
		{{"open 4 64 100", ""}, {"formula (x1 <-> !x0) & (x3 <-> (x2 ^ x0))", "1"}, {"cube 0=0 2=0", "2"}, {"cube 0=0 2=1", "3"},
			{"reach 1 2", "4 3"}, {"count 4", "16"}, {"trace 1 2 3", "00 10 01"}},
	} {
		c := console.New()
		obeys(t, c, "disk 64 1000;power")
		for _, x := range examples {
			is(t, c, x[0], x[1], api.OK)
		}
	}
	c := console.New()
	obeys(t, c, "disk 64 1000;power")
	is(t, c, "open 2 63 100", "", api.ErrArg)
	is(t, c, "open 2 64 1", "", api.OK)
	is(t, c, "formula x0 ^ x1", "", api.ErrIds)
}

// TestTheMoment: a fault at a step's first call, and the power cut at the Seal of a new catalog: DOC.md's examples 6 and 7.
func TestTheMoment(t *testing.T) {
	const ahead = "disk 64 1000;power;open 2 64 9;var 0;power;open 2 64 9"
	first := func() int {
		c := console.New()
		obeys(t, c, ahead)
		return calls(t, c)
	}()
	with := func(trouble string) *console.Console {
		c := console.New()
		obeys(t, c, ahead+";"+trouble+";power;open 2 64 9")
		return c
	}
	c := with("fault " + itoa(first))
	was := c.State()
	is(t, c, "formula x0 & x1", "", api.ErrFault)
	is(t, c, "handles", "1", api.OK)
	is(t, c, "levels", "0 1", api.OK)
	if !sameState(was, c.State()) {
		t.Error("the disk has changed")
	}
	const made = "cat-0000000000000003"
	sealed := func(f api.File) bool { return f.Name == made && f.Sealed }
	seal := first
	for ; ; seal++ {
		c := with("cut " + itoa(seal) + " 1")
		is(t, c, "formula x0 & x1", "", api.ErrOff)
		if slices.ContainsFunc(c.State().Files, sealed) {
			break
		}
	}
	for _, x := range [][2]string{{"0", "1"}, {"1", "1 2"}} {
		c := with("cut " + itoa(seal) + " " + x[0])
		is(t, c, "formula x0 & x1", "", api.ErrOff)
		is(t, c, "handles", "1", api.OK)
		obeys(t, c, "power;open 2 64 9")
		is(t, c, "handles", x[1], api.OK)
	}
}
