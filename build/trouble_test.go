package build_test

import (
	"strings"
	"testing"

	"strata/api"
	"strata/bench"
	"strata/tape"
)

// plotOf is a deed on a disk.
func plotOf(k int, d deed) bench.Plot {
	return bench.Plot{
		What: d.what, K: k, Makes: []bench.Strip{d.makes("out")},
		Do: func(desk *tape.Desk) api.Errno { return d.do(desk, "out") },
	}
}

// plots go through all that the calls may come to: parts that are made and left at once, those that are shared, rows that are joined in one go and in several, rows that are decided early, inputs that are quantified early and late, tables that wait on the disk.
func plots(t *testing.T) []bench.Plot {
	t.Helper()
	d := newDice(30)
	const n = 5
	all := []int{3, 0, 4, 1, 2}
	var out []bench.Plot
	add := func(k int, x deed) { out = append(out, plotOf(k, x)) }
	for _, text := range []string{
		"x0", "!x1 & x2", "x0 & x1 | x2 & x3 | !x4", "x0 ^ x1 ^ x2 ^ x3 ^ x4", "x0 -> x1 -> x2", "ite(x0, x1 ^ x2, exists x3: x3 & x4)", "forall x0: (x0 <-> x1 <-> x2)", "x0 & !x0 & (x1 | x2)", "false & x0", "true",
	} {
		add(1, ofFormula(n, parsed(t, text), all))
	}
	add(2, ofFormula(n, d.formula(14, n), all))
	add(1, ofCnf(n, api.Cnf{Vars: n}, all))
	add(1, ofCnf(n, api.Cnf{Vars: n, Ends: []int{3, 5, 7, 8}, Lits: []int{1, -2, 3, 3, 4, -4, -5, 2}}, all))
	add(2, ofCnf(n, api.Cnf{Vars: n, Ends: []int{2, 2}, Lits: []int{1, -2}}, all))
	add(1, ofTable(n, d.Table(n)))
	add(3, ofTable(n, d.Thin(n)))
	add(1, ofTable(n, make([]bool, 1<<n)))
	shared := net(input("a"), input("b"), latch("l", 0), gate("g", api.OpXor, 0, 1), gate("h", api.OpNand, 3, 2), mux("m", 3, 4, 2), gate("p", api.OpA, 4, 0), gate("o", api.OpOr, 5, 6))
	add(1, ofLine(t, n, shared, 7, []int{4, 1, 2}))
	add(2, ofLine(t, n, shared, 6, []int{0, 1, 2}))
	steps := two(t)
	add(1, ofRelation(t, n, steps, []int{0, 2}, []int{1, 3}))
	add(1, ofRelation(t, n, net(), nil, nil))
	add(2, ofRelation(t, n, net(input("a"), input("b"), gate("g", api.OpAnd, 0, 3), latch("l", 2), latch("m", 1)), []int{4, 0}, []int{1, 2}))
	return out
}

// TestTroubleAtEachCall: a fault, or the power off, at each numbered call. P15.8, G7, As before.
func TestTroubleAtEachCall(t *testing.T) {
	for _, p := range plots(t) {
		t.Run(p.What, func(t *testing.T) {
			t.Parallel()
			bench.EachCall(t, []bench.Plot{p})
		})
	}
}

// TestTroubleInALargeTable: pieces that wait are on the disk.
func TestTroubleInALargeTable(t *testing.T) {
	t.Parallel()
	d := newDice(31)
	p := plotOf(1, ofTable(8, d.Table(8)))
	bench.EachCall(t, []bench.Plot{p})
	bench.FullDisk(t, []bench.Plot{p})
}

// TestBehindAFault: from the first refusal on nothing is asked but Deletes. G7.
func TestBehindAFault(t *testing.T) {
	t.Parallel()
	bench.BehindAFault(t, 7, plots(t))
}

// TestFullDisk: each number of free blocks from none to enough. P15.8, G7.
func TestFullDisk(t *testing.T) {
	t.Parallel()
	bench.FullDisk(t, plots(t))
}

// TestBehindACut: what is left when the power goes off is in nobody's way. DOC.md, Temporary.
func TestBehindACut(t *testing.T) {
	t.Parallel()
	for _, p := range plots(t) {
		was := bench.Holds(t, p.K)
		b := bench.Mount(t, was, api.LeastK*p.K)
		p.Try(b)
		for at := 0; at < b.Disk().Counts().Calls; at += 5 {
			cut := api.Trouble{At: at, Kind: api.TrCut, Bytes: at % 2}
			b := bench.Mount(t, was, api.LeastK*p.K, cut)
			if e := p.Try(b, cut); e != api.ErrOff {
				t.Fatalf("%s: %d", p.What, e)
			}
			left := b.Disk().State()
			for i, f := range left.Files {
				if f.Name == "out" { // what was made ahead of the cut is in the way
					left.Files = append(left.Files[:i:i], left.Files[i+1:]...)
					break
				}
				if !strings.HasPrefix(f.Name, "tmp-") && f.Name != "raw" && f.Name != "open" {
					t.Fatalf("%s: %s is there", p.What, f.Name)
				}
			}
			if e := p.Try(bench.Mount(t, left, api.LeastK*p.K)); e != api.OK {
				t.Fatalf("%s: behind a cut at %d: %d", p.What, at, e)
			}
		}
	}
}

// TestOthersAreSpoilt: files that a call has nothing to do with are not read. G8.
func TestOthersAreSpoilt(t *testing.T) {
	d := newDice(32)
	b := bench.Lie(t, 1)
	for _, name := range []string{"raw", "tmp-1", "tmp-3", "tmp-2.i"} {
		for i := range 3 {
			b.Disk().Spoil(name, i, d.Below(512))
		}
	}
	b.Was = b.Disk().State()
	for _, x := range d.deeds(t, 5) {
		run(b, x)
	}
}
