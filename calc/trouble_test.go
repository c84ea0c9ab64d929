package calc_test

import (
	"slices"
	"strings"
	"testing"

	"strata/api"
	"strata/bench"
	"strata/tape"
)

// plotOf is a deed over some tapes.
func plotOf(k int, tapes []bench.Strip, d deed) bench.Plot {
	return bench.Plot{
		What: d.what, K: k, Tapes: tapes, Makes: []bench.Strip{d.makes("out")},
		Do: func(desk *tape.Desk) api.Errno { return d.do(desk, "out") },
	}
}

// plots go through all that the calls may come to: one sweep and many, temporaries that are deleted meanwhile and those that stay to the end, levels that move alone and those that move together.
func plots() []bench.Plot {
	r := bench.Dice(20)
	const n = 5
	x := anyTrio(&r, n)
	var out []bench.Plot
	for _, d := range []deed{constant(n, true), variable(n, 4), cube(n, r.Lits(n, 4)), x.not(0), x.apply(api.OpXor, 0, 1), x.ite(2, 0, 1), x.restrict(0, r.Lits(n, 2)), x.quantify(0, []int{1, 4, 3}, true), x.quantify(1, nil, false), x.compose(0, 2, 1), x.rename(0, []int{0, 3, 1, 2, 4}), x.rename(2, x.goals(&r, 2)), x.rename(1, []int{0, 1, 2, 3, 4})} {
		out = append(out, plotOf(1, x.tapes(), d))
	}
	for _, d := range []deed{cube(n, r.Lits(n, 5)), x.apply(api.OpAnd, 0, 0), x.ite(0, 1, 1), x.quantify(1, []int{0, 4}, false), x.compose(1, 0, 1), x.rename(1, []int{4, 1, 2, 3, 0})} {
		out = append(out, plotOf(3, x.tapes(), d))
	}
	thin := trioOf(n, bench.TableOf(n, func(a int) bool { return bench.Bit(n, a, 4) }), never(n), never(n)) // moves without a jump
	out = append(out, plotOf(2, thin.tapes(), thin.rename(0, []int{3, 3, 3, 3, 2})))
	clash := plotOf(1, x.tapes(), x.rename(0, []int{0, 1, 2, 2, 3}))
	clash.Want, clash.Makes = api.ErrLevel, nil
	out = append(out, clash)
	return append(out, wrongPlots()...)
}

// wrongPlots are calls over a file that is in rows, of which a node at the deepest level is not there: that is met late.
func wrongPlots() []bench.Plot {
	r := bench.Dice(21)
	const n = 5
	x := anyTrio(&r, n)
	bent := x.lists[0]
	for i := range bent[:len(bent)-1] {
		for w := 1; w < 3; w++ {
			if bent[i][w] == uint64(bench.At(n-1, 1)) {
				bent[i][w] = uint64(bench.At(n-1, 9))
			}
		}
	}
	var out []bench.Plot
	for _, d := range []deed{x.apply(api.OpXor, 0, 1), x.restrict(0, []api.Lit{{Level: n - 2}}), x.quantify(0, []int{2}, true), x.compose(1, 1, 0)} {
		p := plotOf(1, bench.Files(bent, x.lists[1], x.lists[2]), d)
		p.Want, p.Makes = api.ErrShape, nil
		out = append(out, p)
	}
	return out
}

// TestTroubleAtEachCall: a fault, or the power off, at each numbered call. P10.2, P10.3.
func TestTroubleAtEachCall(t *testing.T) {
	for _, p := range plots() {
		t.Run(p.What, func(t *testing.T) {
			t.Parallel()
			bench.EachCall(t, []bench.Plot{p})
		})
	}
}

// TestBehindAFault: from the first refusal on nothing is asked but Deletes. P10.2, G7.
func TestBehindAFault(t *testing.T) {
	t.Parallel()
	bench.BehindAFault(t, 13, plots())
}

// TestFullDisk: each number of free blocks from none to enough. P10.2, P10.3.
func TestFullDisk(t *testing.T) {
	t.Parallel()
	bench.FullDisk(t, plots())
}

// TestBadBlocks: each block of each operand spoilt, of another kind, or none. P10.2, P10.3.
func TestBadBlocks(t *testing.T) {
	bench.BadBlocks(t, slices.DeleteFunc(plots(), func(p bench.Plot) bool {
		return p.Want != api.OK || slices.Contains([]string{"Const", "Var", "Cube"}, p.What[:strings.Index(p.What, "(")])
	}))
}

// TestEachBit: each bit of each block of small files turned: the right answer, or ErrSpoilt. G8.
func TestEachBit(t *testing.T) {
	t.Parallel()
	x := trioOf(2, bench.Number(2, 6), bench.Number(2, 9), bench.Number(2, 8))
	for _, k := range []int{1, 3} {
		was := bench.Holds(t, k, x.tapes()...)
		for _, d := range []deed{x.not(0), x.apply(api.OpOr, 0, 1), x.ite(1, 0, 2), x.restrict(0, []api.Lit{{Level: 0}}), x.quantify(0, []int{1}, true), x.compose(2, 1, 0), x.rename(0, []int{1, 0})} {
			p := plotOf(k, x.tapes(), d)
			told := 0
			for i := range (len(x.lists[0]) + k - 1) / k {
				for bit := range 8 * was.Block {
					b := bench.Mount(t, was, api.LeastK*k)
					b.Disk().Spoil("f", i, bit)
					b.Was = b.Disk().State()
					switch e := p.Try(b); e {
					case api.ErrSpoilt:
						told++
					case api.OK:
					default:
						t.Fatalf("K %d, block %d, bit %d: %s: %d", k, i, bit, d.what, e)
					}
				}
			}
			if told < 8*was.Block {
				t.Errorf("K %d: %s: told %d times", k, d.what, told)
			}
		}
	}
}
