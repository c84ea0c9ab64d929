package reach_test

import (
	"slices"
	"testing"

	"strata/api"
	"strata/bench"
	"strata/reach"
)

// anySteps are steps between states: of any density, of one step a state, or of few.
func anySteps(d *bench.Dice, bits int) []bool {
	n := 1 << bits
	switch kind := d.Below(6); kind {
	case 0:
		return d.Table(2 * bits)
	case 1:
		return d.Thin(2 * bits)
	case 2: // each state has one step, and so does each that is come to
		to := d.Some(n, n)
		return stepsOf(bits, func(s, t int) bool { return to[s] == t })
	case 3: // a long way, with a leap here and there
		to := d.Some(n, n)
		leap := d.Below(n)
		return stepsOf(bits, func(s, t int) bool { return to[t] == to[s]+1 || s == leap && t < s/2 })
	}
	many := 1 + d.Below(2*n)
	var pairs [][2]int
	for range many {
		pairs = append(pairs, [2]int{d.Below(n), d.Below(n)})
	}
	return stepsOf(bits, func(s, t int) bool { return slices.Contains(pairs, [2]int{s, t}) })
}

// anySet is a set of any size, the empty one and that of all states among them.
func anySet(d *bench.Dice, bits int) set {
	out := make(set, 1<<bits)
	part := d.Below(6)
	for s := range out {
		out[s] = d.Below(5) < part
	}
	if part == 3 { // one state
		clear(out)
		out[d.Below(len(out))] = true
	}
	return out
}

// anyRig is an engine in any order with steps 1 and sets 2 to 5, the last of which asks for a next state, if there is one.
func anyRig(t *testing.T, d *bench.Dice, bits, k int) *rig {
	t.Helper()
	o := options(2*bits, k)
	o.Budget += d.Below(3) * d.Below(300)
	r := begin(t, k, o)
	if d.Below(3) > 0 {
		r.order(d.Some(2*bits, 2*bits)...)
	}
	r.put(anySteps(d, bits))
	for range 3 {
		r.putSet(anySet(d, bits))
	}
	r.put(d.Table(2 * bits))
	return r
}

// anyAct is a call over the handles of such a rig.
func anyAct(d *bench.Dice) act {
	h := func() int { return 2 + d.Below(3) + d.Below(40)/39*d.Below(4) }
	steps := 1 + d.Below(30)/29*d.Below(6)
	switch d.Below(8) {
	case 0:
		return post(steps, h())
	case 1:
		return pre(steps, h())
	case 2:
		return reached(steps, h())
	case 3:
		return until(steps, h(), h())
	case 4:
		return always(steps, h())
	case 5:
		return trace(steps, h(), h())
	}
	sets := []int{h(), h(), h()}
	return holds(steps, sets, anyProperty(d, letters(len(sets)), 1+d.Below(4)))
}

// TestCalls: each call answers what a search through the single states answers, in any order, over any blocks and budgets, and each set's file is the canonical one. P19.1 to P19.7, W12.
func TestCalls(t *testing.T) {
	all := map[api.Errno]int{}
	for seed := range 150 {
		d := bench.Dice(seed)
		r := anyRig(t, &d, seed%4, 1+d.Below(7))
		for range 25 {
			all[r.tries(anyAct(&d)).fault.Code]++
		}
	}
	if all[api.OK] < 2000 || all[api.ErrLeaf] < 20 || all[api.ErrOdd] < 20 || all[api.ErrHandle] < 20 {
		t.Errorf("answers %v", all)
	}
}

// TestSmallMachines: all steps there are between the states of one bit, and all sets, in both orders. P19.1 to P19.5.
func TestSmallMachines(t *testing.T) {
	for turned := range 2 {
		r := begin(t, 1, options(2, 1))
		r.order(turned, 1-turned)
		var sets, steps []int
		for n := range 4 {
			sets = append(sets, r.putSet(set{n&1 > 0, n&2 > 0}))
		}
		for n := range 16 {
			steps = append(steps, r.put(bench.Number(2, n)))
		}
		for _, f := range steps {
			for _, a := range sets {
				for _, x := range []act{post(f, a), pre(f, a), reached(f, a), always(f, a)} {
					r.tries(x)
				}
				for _, b := range sets {
					r.tries(until(f, a, b))
					r.tries(trace(f, a, b))
				}
			}
		}
	}
}

// TestLargerMachines: states of four and five bits. P19.1 to P19.7.
func TestLargerMachines(t *testing.T) {
	for seed := range 6 {
		d := bench.Dice(500 + seed)
		r := anyRig(t, &d, 4+seed%2, 1+d.Below(20))
		for range 12 {
			r.tries(anyAct(&d))
		}
	}
}

// TestEachOrder: what is answered does not hang on the order of the variables; the least way is told by bits, not by levels. P19.5, P19.7.
func TestEachOrder(t *testing.T) {
	d := bench.Dice(7)
	const bits = 2
	steps, a, b := d.Table(2*bits), anySet(&d, bits), set{false, false, false, true}
	a[3] = false
	free := func(s, t int) bool { return true } // each state is one step away: the least one of a set is told
	bench.Orders(2*bits, func(order []int) {
		r := begin(t, 2, options(2*bits, 2))
		r.order(order...)
		f, g := r.put(steps), r.putSteps(free)
		x, y := r.putSet(a), r.putSet(b)
		for n := range 16 {
			h := r.putSet(set{n&1 > 0, n&2 > 0, n&4 > 0, n&8 > 0})
			r.tries(trace(g, h, h))
			r.tries(trace(g, y, h))
			r.tries(trace(f, h, y))
			r.free(h)
		}
		for _, act := range everyCall(f, x, y) {
			r.tries(act)
		}
	})
}

// TestUnlikeEngines: the same calls answer the same, and make files of the same records, over unlike blocks and budgets. P19.7, W3, G9.
func TestUnlikeEngines(t *testing.T) {
	for seed := range 5 {
		d := bench.Dice(900 + seed)
		order := d.Some(6, 6)
		tables := [][]bool{anySteps(&d, 3), functionOf(3, anySet(&d, 3)), functionOf(3, anySet(&d, 3)), functionOf(3, anySet(&d, 3)), d.Table(6)}
		var acts []act
		for range 10 {
			acts = append(acts, anyAct(&d))
		}
		var told [][]answer
		for _, c := range []struct{ k, budget int }{{1, 64}, {1, 5000}, {3, 200}, {31, 1984}, {2047, 1<<63 - 1}} {
			r := begin(t, c.k, api.Options{Vars: 6, Budget: c.budget, Ids: 1 << 40})
			r.order(order...)
			for _, f := range tables {
				r.put(f)
			}
			var answers []answer
			for _, a := range acts {
				answers = append(answers, r.tries(a))
			}
			told = append(told, answers)
		}
		for _, answers := range told[1:] {
			if !slices.Equal(answers, told[0]) {
				t.Errorf("seed %d: %v, %v", seed, answers, told[0])
			}
		}
	}
}

// TestNoVariables: there is one state, of no bits. P19.1 to P19.6.
func TestNoVariables(t *testing.T) {
	r := begin(t, 1, options(0, 1))
	yes, no := r.put([]bool{true}), r.put([]bool{false})
	for _, steps := range []int{yes, no} {
		for _, a := range []int{yes, no} {
			for _, b := range []int{yes, no} {
				for _, x := range everyCall(steps, a, b) {
					r.tries(x)
				}
			}
		}
	}
	if way, e := reach.Trace(r.e, no, yes, yes); len(way) != 1 || len(way[0]) != 0 || e != api.OK {
		t.Errorf("Trace: %v, %d", way, e)
	}
}

// TestOneStep: each call is one step of the engine, however many operations it needs; Trace is none. P18.10.
func TestOneStep(t *testing.T) {
	d := bench.Dice(3)
	r := anyRig(t, &d, 3, 2)
	for _, a := range everyCall(1, 2, 3) {
		was := r.d.Names()[0]
		got := r.does(a)
		if now := r.d.Names()[0]; (now == next(was)) != got.made || !got.made && now != was {
			t.Errorf("%s: the catalog %s, then %s", a.what, was, now)
		}
	}
}

// next is the name of the catalog behind one.
func next(name string) string {
	b := []byte(name)
	for i := len(b) - 1; ; i-- {
		switch b[i] {
		case 'f':
			b[i] = '0'
			continue
		case '9':
			b[i] = 'a'
		default:
			b[i]++
		}
		return string(b)
	}
}

// TestOwnMemory: what is handed in stays as it is, its spare room too; the states of a way share no memory. G3, G4.
func TestOwnMemory(t *testing.T) {
	r := begin(t, 1, options(4, 1))
	steps := r.putSteps(counter(2))
	zero, two := r.putSet(set{true, false, false, false}), r.putSet(set{false, true, false, false})
	names, sets := []string{"a", "b", "spare"}, []int{zero, two, 77}
	h, f := reach.Holds(r.e, steps, names[:2], sets[:2], "E[true U b] & EF a")
	if h == 0 || f != (api.Fault{}) || !slices.Equal(names, []string{"a", "b", "spare"}) || !slices.Equal(sets, []int{zero, two, 77}) {
		t.Errorf("Holds: %d, %v, %v, %v", h, f, names, sets)
	}
	for _, none := range [][]string{nil, {}} {
		for _, no := range [][]int{nil, {}} {
			if h, f := reach.Holds(r.e, steps, none, no, "EX true"); h == 0 || f != (api.Fault{}) {
				t.Errorf("no names: %d, %v", h, f)
			}
		}
	}
	way, e := reach.Trace(r.e, steps, zero, two)
	if e != api.OK || len(way) != 3 {
		t.Fatalf("Trace: %v, %d", way, e)
	}
	want := written(way)
	for i, s := range way {
		s = append(s, true, true, true, true)
		for j := range s {
			s[j] = !s[j]
		}
		for j := range way[i] {
			way[i][j] = bitsOf(2, []int{0, 2, 1}[i])[j]
		}
	}
	if written(way) != want {
		t.Errorf("%v, want %s", way, want)
	}
	if again, e := reach.Trace(r.e, steps, zero, two); written(again) != want || e != api.OK {
		t.Errorf("%v, %d", again, e)
	}
}
