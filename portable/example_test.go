package portable_test

import (
	"strings"
	"testing"

	"strata/api"
	"strata/bench"
	"strata/portable"
)

// TestExamples: the chapter's table, row by row.
func TestExamples(t *testing.T) {
	two := func(bits int) []api.Rec { return bench.Canon(2, bench.Number(2, bits)) }
	b := bench.Lie(t, 2, strip("and", two(8)), strip("xor", two(6)), strip("imp", two(11)), strip("true", []api.Rec{bench.End(3, T, 0)}), strip("x", bench.Canon(1, bench.Number(1, 2))))
	for _, c := range []struct {
		what, file, want string
	}{
		{"Dump", "and", "strata 1\nlevels 2\nnodes 2\n1:0 F T\n0:0 F 1:0\nroot 0:0\n"},
		{"Dump", "true", "strata 1\nlevels 3\nnodes 0\nroot T\n"},
		{"Sop", "xor", "!x0 & x1 | x0 & !x1"},
		{"Sop", "imp", "!x0 | x0 & x1"},
		{"Dot", "x", "digraph strata {\nn0_0 [label=\"x0\"];\nn0_0 -> F [style=dashed];\nn0_0 -> T;\nF [shape=box];\nT [shape=box];\nroot -> n0_0;\n}\n"},
	} {
		for _, do := range calls() {
			if do.what != c.what {
				continue
			}
			if got, e := do.do(b.Desk, c.file); got != c.want || e != api.OK {
				t.Errorf("%s of %s: %q, %d, want %q", c.what, c.file, got, e, c.want)
			}
		}
	}
	b.AsBefore("the calls that write")
	const head = "strata 1\nlevels 2\n"
	for _, c := range []struct {
		text      string
		line, col int
	}{
		{"", 1, 1},
		{"strata 2\n", 1, 8},
		{"strata 1\nlevels 02\n..", 2, 9},
		{"strata 1\nlevels 2\nnodes 0\nroot T", 4, 7},
		{head + "nodes 1\nroot T\n", 3, 7},
		{head + "nodes 1\n2:0 F T\nroot 2:0\n", 4, 1},
		{head + "nodes 1\n1:1 F T\nroot 1:1\n", 4, 1},
		{head + "nodes 1\n0:0 F 1:0\nroot 0:0\n", 4, 7},
		{head + "nodes 1\n1:0 T T\nroot 1:0\n", 4, 7},
		{head + "nodes 2\n1:0 T F\n1:1 F T\nroot 1:1\n", 5, 7},
		{head + "nodes 2\n1:0 F T\n0:0 F T\nroot 0:0\n", 4, 1},
		{head + "nodes 2\n1:0 F T\n1:1 T F\nroot 1:1\n", 4, 1},
		{head + "nodes 1\n1:0 F T\nroot T\n", 5, 6},
		{head + "nodes 1\n1:0 F T \nroot 1:0\n", 4, 8},
	} {
		refuses(b, c.text, noText(c.line, c.col))
	}
	for _, f := range []string{"and", "xor", "imp", "true", "x"} {
		text, e := portable.Dump(b.Desk, f)
		b.Is(f, e, api.OK)
		loads(b, text, b.Records(f, api.KindNodes))
	}
	refuses(b, strings.Repeat("x", api.MaxText+1), api.Fault{Code: api.ErrLong})
}
