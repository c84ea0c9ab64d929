package build

import "strata/api"

// net are the lines of a circuit as parts of what is built.
type net struct {
	*site
	gates  []api.Gate
	levels []int  // by line: the level of a point
	asked  []int  // by line: how often it is asked for
	shared []part // by line: what is made of one that is asked for several times
}

func newNet(s *site, gates []api.Gate) *net {
	s.deep = true
	return &net{site: s, gates: gates, levels: make([]int, len(gates)), asked: make([]int, len(gates)), shared: make([]part, len(gates))}
}

// line is the value of a circuit's line, with these levels of its points.
func (s *site) line(c api.Circuit, place int, at []int) part {
	n := newNet(s, c.Gates)
	for i, point := range linesOf(c, api.GaInput, api.GaLatch) {
		n.levels[point] = at[i]
	}
	n.ask(place)
	return n.partOf(n.row(place))
}

// asks are the places of the lines whose values a line's value hangs on.
func asks(g api.Gate) []int {
	switch g.Kind {
	case api.GaMux:
		return []int{g.A, g.B, g.C}
	case api.GaGate:
		var lines []int
		if g.Op&3 != g.Op>>2 {
			lines = append(lines, g.A)
		}
		if g.Op&5 != g.Op>>1&5 {
			lines = append(lines, g.B)
		}
		return lines
	}
	return nil
}

// ask counts one who asks for a line; the first lets the line ask for others.
func (n *net) ask(line int) {
	n.asked[line]++
	if n.asked[line] > 1 {
		return
	}
	for _, next := range asks(n.gates[line]) {
		n.ask(next)
	}
}

// row is what a line becomes for one who has asked for it.
func (n *net) row(line int) row {
	g := n.gates[line]
	switch {
	case g.Kind == api.GaInput || g.Kind == api.GaLatch:
		return rowOf(n.level(n.levels[line]))
	case n.asked[line] == 1:
		return n.value(g)
	case n.shared[line].file == nil:
		n.shared[line] = n.share(n.partOf(n.value(g)), n.asked[line])
	}
	return rowOf(n.shared[line])
}

// value is what a gate or a multiplexer becomes.
func (n *net) value(g api.Gate) row {
	of := func(line int) part { return n.partOf(n.row(line)) }
	if g.Kind == api.GaMux {
		return rowOf(n.choose(of(g.A), of(g.B), of(g.C)))
	}
	switch g.Op {
	case api.OpFalse, api.OpTrue:
		return rowOf(n.constant(g.Op == api.OpTrue))
	case api.OpA:
		return n.row(g.A)
	case api.OpB:
		return n.row(g.B)
	case api.OpNotA:
		return rowOf(n.not(of(g.A)))
	case api.OpNotB:
		return rowOf(n.not(of(g.B)))
	case api.OpAnd, api.OpOr, api.OpXor, api.OpIff:
		return n.joined(g.Op, n.row(g.A), n.row(g.B))
	}
	return rowOf(n.apply(g.Op, of(g.A), of(g.B)))
}
