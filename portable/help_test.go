package portable_test

import (
	"slices"
	"strconv"
	"strings"

	"strata/api"
	"strata/bench"
	"strata/portable"
	"strata/tape"
)

// The leaves, as the chapter writes them.
const (
	F = api.False
	T = api.True
)

const most = api.MaxVars

// strip is a node file.
func strip(name string, list []api.Rec) bench.Strip {
	return bench.Strip{Name: name, Kind: api.KindNodes, List: list}
}

// levelOf and idOf are those of a pointer to a node.
func levelOf(p uint64) string { return strconv.FormatUint(p>>40, 10) }

func idOf(p uint64) string { return strconv.FormatUint(p&(1<<40-1), 10) }

// leafOf is the letter of a leaf; none of a node.
func leafOf(p uint64) string {
	switch p {
	case uint64(F):
		return "F"
	case uint64(T):
		return "T"
	}
	return ""
}

// parted are the records of a node file's nodes, and its end.
func parted(list []api.Rec) ([]api.Rec, api.Rec) { return list[:len(list)-1], list[len(list)-1] }

// dumpOf is the text of a node file, by the chapter's words.
func dumpOf(list []api.Rec) string {
	name := func(p uint64) string {
		if leaf := leafOf(p); leaf != "" {
			return leaf
		}
		return levelOf(p) + ":" + idOf(p)
	}
	all, end := parted(list)
	lines := []string{"strata 1", "levels " + strconv.Itoa(int(end[1])), "nodes " + strconv.Itoa(len(all))}
	for _, r := range all {
		lines = append(lines, strings.Join([]string{name(r[0]), name(r[1]), name(r[2])}, " "))
	}
	return strings.Join(append(lines, "root "+name(end[2])), "\n") + "\n"
}

// dotOf is the drawing of a node file, by the chapter's words.
func dotOf(list []api.Rec) string {
	name := func(p uint64) string {
		if leaf := leafOf(p); leaf != "" {
			return leaf
		}
		return "n" + levelOf(p) + "_" + idOf(p)
	}
	all, end := parted(list)
	lines := []string{"digraph strata {"}
	for _, r := range all {
		lines = append(lines, name(r[0])+` [label="x`+levelOf(r[0])+`"];`, name(r[0])+" -> "+name(r[1])+" [style=dashed];", name(r[0])+" -> "+name(r[2])+";")
	}
	lines = append(lines, "F [shape=box];", "T [shape=box];", "root -> "+name(end[2])+";", "}")
	return strings.Join(lines, "\n") + "\n"
}

// sopOf is the sum of a node file's products, path by path, by the chapter's words.
func sopOf(list []api.Rec) string {
	all, end := parted(list)
	node := map[uint64]api.Rec{}
	for _, r := range all {
		node[r[0]] = r
	}
	var products, path []string
	var walk func(at uint64)
	walk = func(at uint64) {
		switch leafOf(at) {
		case "":
			for side, front := range []string{"!x", "x"} {
				path = append(path, front+levelOf(at))
				walk(node[at][1+side])
				path = path[:len(path)-1]
			}
		case "T":
			products = append(products, strings.Join(path, " & "))
		}
	}
	switch leafOf(end[2]) {
	case "F":
		return "false"
	case "T":
		return "true"
	}
	walk(end[2])
	return strings.Join(products, " | ")
}

// treeOf is how many nodes a sum has as a formula.
func treeOf(sop string) int {
	n := 0
	for _, word := range strings.Fields(sop) {
		if n++; word[0] == '!' {
			n++
		}
	}
	return n
}

// refusalOf is what a sum is refused with.
func refusalOf(sop string) api.Errno {
	switch {
	case len(sop) > api.MaxText:
		return api.ErrLong
	case treeOf(sop) > api.MaxTree:
		return api.ErrMany
	}
	return api.OK
}

// chain is the node file over n levels of a path through these levels, which rise, to the leaf True; each level may be low or high.
func chain(n int, levels []int, high func(i int) bool) []api.Rec {
	var list []api.Rec
	next := T
	for i, l := range slices.Backward(levels) {
		r := api.Rec{uint64(bench.At(l, 0)), uint64(next), uint64(F)}
		if high(i) {
			r[1], r[2] = r[2], r[1]
		}
		list = append(list, r)
		next = bench.At(l, 0)
	}
	return append(list, bench.End(n, next, len(list)))
}

// upTo are the numbers from one to ahead of another.
func upTo(from, to int) []int {
	var out []int
	for l := from; l < to; l++ {
		out = append(out, l)
	}
	return out
}

// parity is the node file over n levels of "an odd number of these levels is true".
func parity(n int, levels []int) []api.Rec {
	var list []api.Rec
	even, odd := F, T
	for i, l := range slices.Backward(levels) {
		a, b := api.Rec{uint64(bench.At(l, 0)), uint64(even), uint64(odd)}, api.Rec{uint64(bench.At(l, 1)), uint64(odd), uint64(even)}
		list = append(list, a)
		if i > 0 {
			list = append(list, b)
		}
		even, odd = api.Ptr(a[0]), api.Ptr(b[0])
	}
	return append(list, bench.End(n, even, len(list)))
}

// choice is the node file of two others, that have no level in common and no node at level 0, under a root there.
func choice(low, high []api.Rec) []api.Rec {
	a, endA := parted(low)
	b, endB := parted(high)
	list := slices.Concat(a, b)
	slices.SortStableFunc(list, func(x, y api.Rec) int { return int(y[0]>>40) - int(x[0]>>40) })
	list = append(list, api.Rec{0, endA[2], endB[2]})
	return append(list, bench.End(int(endA[1]), 0, len(list)))
}

// waits is the node file of a choice between the parity of so many levels and another function, many of whose paths have begun by the time that all those of the parity have, and wait.
func waits(r *bench.Dice, levels int) []api.Rec {
	const n, own = 60, 9
	places := []int{1, 3, 5, 7, 9, 11, 50, 51, 52}
	wide := bench.Spread(bench.Canon(own, r.Table(own)), n, places)
	var even []int
	for l := range levels {
		even = append(even, 2*l+2)
	}
	return choice(wide, parity(n, even))
}

// call is one of the three that write a text of a file.
type call struct {
	what string
	do   func(k *tape.Desk, f string) (string, api.Errno)
	of   func(list []api.Rec) string
}

func calls() []call {
	return []call{{"Dump", portable.Dump, dumpOf}, {"Dot", portable.Dot, dotOf}, {"Sop", portable.Sop, sopOf}}
}

// tells fails the test unless the calls tell of a file what the chapter says, and all is as before.
func tells(b bench.Bench, f string, list []api.Rec) {
	b.Helper()
	for _, c := range calls() {
		want, refused := c.of(list), api.OK
		if c.what == "Sop" {
			refused = refusalOf(want)
		}
		if refused != api.OK {
			want = ""
		}
		got, e := c.do(b.Desk, f)
		if got != want || e != refused {
			b.Fatalf("%s of %s: %d\n%.2000q, want %d\n%.2000q", c.what, f, e, got, refused, want)
		}
		b.AsBefore(c.what)
	}
}

// loads fails the test unless a text is taken, and is the file of these records.
func loads(b bench.Bench, text string, list []api.Rec) {
	b.Helper()
	if fault := portable.Load(b.Desk, text, "out"); fault != (api.Fault{}) {
		b.Fatalf("Load of %.2000q: %v", text, fault)
	}
	b.Made("Load", strip("out", list))
	b.Disk().Delete("out")
}

// refuses fails the test unless a text is refused so, and all is as before.
func refuses(b bench.Bench, text string, want api.Fault) {
	b.Helper()
	b.Still("Load", func() {
		if got := portable.Load(b.Desk, text, "out"); got != want {
			b.Fatalf("Load of %.2000q: %v, want %v", text, got, want)
		}
	})
	b.AsBefore("Load")
}

// noText is the fault of a text at a place.
func noText(line, col int) api.Fault {
	return api.Fault{Code: api.ErrText, At: api.Pos{Line: line, Col: col}}
}
