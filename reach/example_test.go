package reach_test

import (
	"testing"

	"strata/api"
	"strata/bench"
	"strata/reach"
)

// counter goes up by one, bit 0 being the lowest digit of what it counts.
func counter(bits int) func(s, t int) bool {
	value := func(s int) int {
		n := 0
		for i := range bits {
			n += bench.Side(bench.Bit(bits, s, i)) << i
		}
		return n
	}
	return func(s, t int) bool { return value(t) == (value(s)+1)%(1<<bits) }
}

// TestExamples: the chapter's table, row by row, in each order of the four variables. P19.1 to P19.7.
func TestExamples(t *testing.T) {
	bench.Orders(4, func(order []int) {
		r := begin(t, 1, options(4, 1))
		steps := r.putSteps(counter(2))
		const ff, ft, tf, tt = 0, 1, 2, 3 // s0 is the highest digit of a state's number
		of := func(states ...int) set {
			in := make(set, 4)
			for _, s := range states {
				in[s] = true
			}
			return in
		}
		zero, low, two, none, all := r.putSet(of(ff)), r.putSet(of(ff, tf)), r.putSet(of(ft)), r.putSet(of()), r.putSet(of(ff, ft, tf, tt))
		odd := r.put(bench.TableOf(4, func(x int) bool { return bench.Bit(4, x, 0) && bench.Bit(4, x, 1) }))
		r.order(order...)
		makes := func(a act, want ...int) {
			t.Helper()
			a.say = func(graph, []set) (answer, set) { return answer{made: true}, of(want...) }
			r.tries(a)
		}
		tells := func(a act, want answer) {
			t.Helper()
			if got := r.tries(a); got != want {
				t.Fatalf("%s: %+v, want %+v", a.what, got, want)
			}
		}
		makes(post(steps, zero), tf)
		makes(pre(steps, zero), tt)
		tells(reached(steps, zero), answer{made: true, steps: 3})
		makes(until(steps, low, two), ff, tf, ft)
		makes(always(steps, low))
		makes(always(steps, all), ff, ft, tf, tt)
		way := [][]bool{{false, false}, {true, false}, {false, true}}
		tells(trace(steps, zero, two), answer{way: written(way)})
		tells(trace(steps, zero, none), refused(api.ErrLeaf))
		tells(trace(steps, zero, zero), answer{way: written(way[:1])})
		tells(post(steps, odd), refused(api.ErrOdd))
		holds := func(text string, want ...int) {
			t.Helper()
			makes(holds(steps, []int{zero}, property{text: text}), want...)
		}
		holds("AG EF a", ff, ft, tf, tt)
		holds("E[!a U a]", ff, ft, tf, tt)
		holds("EX a & !a", tt)
		holds("EG a")
		for _, c := range []struct {
			text string
			col  int
		}{{"a U a", 3}, {"EX", 3}, {"E[a]", 4}, {"y", 1}, {"a #", 3}} {
			tells(wrongText(steps, []int{zero}, c.text, api.ErrCtl, 1, c.col), answer{fault: api.Fault{Code: api.ErrCtl, At: api.Pos{Line: 1, Col: c.col}}})
		}
		for _, name := range []string{"EX", "a b"} {
			if h, f := reach.Holds(r.e, steps, []string{name}, []int{zero}, "true"); h != 0 || f != (api.Fault{Code: api.ErrArg}) {
				t.Errorf("name %q: %d, %v", name, h, f)
			}
		}
	})
}
