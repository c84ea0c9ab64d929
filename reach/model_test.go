package reach_test

import (
	"slices"

	"strata/bench"
)

// The number of a state has its bit 0 as the highest digit: so the lesser state is the lesser number. The number of an assignment has the truth of variable 0 as its highest digit.

// graph are the states of so many bits, and the steps between them, one by one.
type graph struct {
	bits  int
	leads func(s, t int) bool
}

// set tells of each state whether it is in it.
type set []bool

func (g graph) states() int { return 1 << g.bits }

// such are the states of which something is so.
func (g graph) such(is func(s int) bool) set {
	out := make(set, g.states())
	for s := range out {
		out[s] = is(s)
	}
	return out
}

// pair is the assignment of a state and the one that a step leads to.
func pair(bits, s, t int) int {
	x := 0
	for i := range bits {
		x = bench.With(2*bits, x, 2*i, bench.Bit(bits, s, i))
		x = bench.With(2*bits, x, 2*i+1, bench.Bit(bits, t, i))
	}
	return x
}

// parted are the two states of an assignment.
func parted(bits, x int) (s, t int) {
	for i := range bits {
		s = bench.With(bits, s, i, bench.Bit(2*bits, x, 2*i))
		t = bench.With(bits, t, i, bench.Bit(2*bits, x, 2*i+1))
	}
	return s, t
}

// graphOf are the steps that a function of 2m variables stands for.
func graphOf(bits int, steps []bool) graph {
	return graph{bits, func(s, t int) bool { return steps[pair(bits, s, t)] }}
}

// stepsOf is the function of steps.
func stepsOf(bits int, leads func(s, t int) bool) []bool {
	return bench.TableOf(2*bits, func(x int) bool { return leads(parted(bits, x)) })
}

// functionOf is the function of a set.
func functionOf(bits int, in set) []bool {
	return bench.TableOf(2*bits, func(x int) bool {
		s, _ := parted(bits, x)
		return in[s]
	})
}

// setOf is the set that a function stands for; false, if it stands for none.
func setOf(bits int, f []bool) (set, bool) {
	for i := range bits {
		if bench.HangsOn(2*bits, f, 2*i+1) {
			return nil, false
		}
	}
	out := make(set, 1<<bits)
	for s := range out {
		out[s] = f[pair(bits, s, 0)]
	}
	return out, true
}

func (g graph) post(in set) set {
	return g.such(func(t int) bool {
		for s, is := range in {
			if is && g.leads(s, t) {
				return true
			}
		}
		return false
	})
}

func (g graph) pre(in set) set {
	return g.such(func(s int) bool {
		for t, is := range in {
			if is && g.leads(s, t) {
				return true
			}
		}
		return false
	})
}

// reach goes from state to state: how far each is, and so the farthest.
func (g graph) reach(from set) (set, int) {
	far := map[int]int{}
	var queue []int
	for s, is := range from {
		if is {
			far[s] = 0
			queue = append(queue, s)
		}
	}
	most := 0
	for ; len(queue) > 0; queue = queue[1:] {
		for t := range g.states() {
			if _, there := far[t]; !there && g.leads(queue[0], t) {
				far[t] = far[queue[0]] + 1
				most = max(most, far[t])
				queue = append(queue, t)
			}
		}
	}
	return g.such(func(s int) bool { _, there := far[s]; return there }), most
}

// until looks for a way from each state, depth first.
func (g graph) until(while, end set) set {
	return g.such(func(s int) bool {
		gone := map[int]bool{}
		var comes func(s int) bool
		comes = func(s int) bool {
			if end[s] {
				return true
			}
			if gone[s] || !while[s] {
				return false
			}
			gone[s] = true
			for t := range g.states() {
				if g.leads(s, t) && comes(t) {
					return true
				}
			}
			return false
		}
		return comes(s)
	})
}

// always: a way of more states than there are goes in a circle, and so on without an end.
func (g graph) always(in set) set {
	ways := slices.Clone(in) // from which a way of one state, of two, .. is within it
	for range g.states() {
		more := g.pre(ways)
		for s := range ways {
			ways[s] = more[s] && in[s]
		}
	}
	return ways
}

// trace tries ways of no step, of one, of two, .., the lesser states first; nil, if there is none.
func (g graph) trace(from, into set) []int {
	for steps := range g.states() {
		dead := map[[2]int]bool{} // states from which no way of so many steps leads into it
		var go1 func(s, left int) []int
		go1 = func(s, left int) []int {
			if left == 0 && into[s] {
				return []int{s}
			}
			if left > 0 && !dead[[2]int{s, left}] {
				for t := range g.states() {
					if g.leads(s, t) {
						if rest := go1(t, left-1); rest != nil {
							return append([]int{s}, rest...)
						}
					}
				}
			}
			dead[[2]int{s, left}] = true
			return nil
		}
		for s, is := range from {
			if is {
				if way := go1(s, steps); way != nil {
					return way
				}
			}
		}
	}
	return nil
}

// bitsOf is a state as it is answered.
func bitsOf(bits, s int) []bool {
	out := make([]bool, bits)
	for i := range out {
		out[i] = bench.Bit(bits, s, i)
	}
	return out
}

// property is a text, and the set of states in which it holds.
type property struct {
	text  string
	binds int // how tightly its outermost sign does: <-> 1, -> 2, | 3, & 4, all else 5
	holds func(g graph, sets []set) set
}

// in brackets, if it binds less tightly than that.
func (p property) in(least int) string {
	if p.binds < least {
		return "(" + p.text + ")"
	}
	return p.text
}

// sign is one of two operands.
type sign struct {
	text        string
	left, right int // how tightly its operands must bind
	is          func(a, b bool) bool
}

func signs() []sign {
	return []sign{
		{"<->", 1, 2, func(a, b bool) bool { return a == b }},
		{"->", 3, 2, func(a, b bool) bool { return !a || b }},
		{"|", 3, 4, func(a, b bool) bool { return a || b }},
		{"&", 4, 5, func(a, b bool) bool { return a && b }},
	}
}

// joined are two properties with a sign between.
func joined(p property, s sign, q property) property {
	return property{p.in(s.left) + " " + s.text + " " + q.in(s.right), min(s.left, s.right), func(g graph, sets []set) set {
		a, b := p.holds(g, sets), q.holds(g, sets)
		return g.such(func(x int) bool { return s.is(a[x], b[x]) })
	}}
}

func not(g graph, in set) set { return g.such(func(s int) bool { return !in[s] }) }

// prefixed is a property behind a prefix; what it says is told of single ways.
func prefixed(prefix string, p property) property {
	return property{prefix + " " + p.in(5), 5, func(g graph, sets []set) set {
		in := p.holds(g, sets)
		all := g.such(func(int) bool { return true })
		switch prefix {
		case "EX":
			return g.pre(in)
		case "EF":
			return g.until(all, in)
		case "EG":
			return g.always(in)
		case "AX":
			return g.such(func(s int) bool {
				for t := range g.states() {
					if g.leads(s, t) && !in[t] {
						return false
					}
				}
				return true
			})
		case "AF":
			return not(g, g.always(not(g, in)))
		case "AG":
			return not(g, g.until(all, not(g, in)))
		}
		return not(g, in)
	}}
}

// path is E[p U q], or A[p U q].
func path(quantifier string, p, q property) property {
	return property{quantifier + "[" + p.text + " U " + q.text + "]", 5, func(g graph, sets []set) set {
		a, b := p.holds(g, sets), q.holds(g, sets)
		if quantifier == "E" {
			return g.until(a, b)
		}
		miss := not(g, b)
		lost := g.until(miss, g.such(func(s int) bool { return !a[s] && !b[s] }))
		stays := g.always(miss)
		return g.such(func(s int) bool { return !lost[s] && !stays[s] })
	}}
}

// constant is true or false.
func constant(v bool) property {
	text := "false"
	if v {
		text = "true"
	}
	return property{text, 5, func(g graph, _ []set) set { return g.such(func(int) bool { return v }) }}
}

// named is a name.
func named(name string, place int) property {
	return property{name, 5, func(_ graph, sets []set) set { return sets[place] }}
}

// anyProperty is one over names, so deep.
func anyProperty(d *bench.Dice, names []string, deep int) property {
	if deep == 0 || d.Below(8) == 0 {
		if place := d.Below(len(names) + 1); place < len(names) {
			return named(names[place], place)
		}
		return constant(d.Below(2) == 0)
	}
	part := func() property { return anyProperty(d, names, deep-1) }
	switch d.Below(5) {
	case 0, 1:
		return prefixed([]string{"!", "EX", "EF", "EG", "AX", "AF", "AG"}[d.Below(7)], part())
	case 2:
		return path([]string{"E", "A"}[d.Below(2)], part(), part())
	}
	return joined(part(), signs()[d.Below(4)], part())
}
