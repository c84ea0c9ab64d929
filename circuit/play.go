package circuit

import "strata/api"

// player plays a circuit that is formed.
type player struct {
	gates   []api.Gate
	order   []int // all lines, each behind those on which it leans
	inputs  []int // places
	latches []int
	sources []int // of the latches' next values
	outs    []int
	values  []bool // by line
}

func newPlayer(c api.Circuit) *player {
	p := &player{gates: c.Gates, order: searched(c.Gates).out, outs: c.Outs, values: make([]bool, len(c.Gates))}
	for line, g := range c.Gates {
		switch g.Kind {
		case api.GaInput:
			p.inputs = append(p.inputs, line)
		case api.GaLatch:
			p.latches = append(p.latches, line)
			p.sources = append(p.sources, g.A)
		}
	}
	return p
}

// step is what goes out, and the latches' next values.
func (p *player) step(inputs, latches []bool) (outs, next []bool) {
	p.set(p.inputs, inputs)
	p.set(p.latches, latches)
	for _, line := range p.order {
		switch g := p.gates[line]; g.Kind {
		case api.GaGate:
			p.values[line] = g.Op>>(2*p.bit(g.A)+p.bit(g.B))&1 == 1
		case api.GaMux:
			p.values[line] = p.values[p.chosen(g)]
		}
	}
	return p.get(p.outs), p.get(p.sources)
}

func (p *player) set(places []int, values []bool) {
	for i, place := range places {
		p.values[place] = values[i]
	}
}

func (p *player) get(places []int) []bool {
	values := make([]bool, len(places))
	for i, place := range places {
		values[i] = p.values[place]
	}
	return values
}

func (p *player) bit(place int) int {
	if p.values[place] {
		return 1
	}
	return 0
}

// chosen is the line whose value a multiplexer takes.
func (p *player) chosen(g api.Gate) int {
	if p.values[g.A] {
		return g.B
	}
	return g.C
}

// first are the first values of a circuit's latches.
func first(c api.Circuit) []bool {
	var values []bool
	for _, g := range c.Gates {
		if g.Kind == api.GaLatch {
			values = append(values, g.Op == 1)
		}
	}
	return values
}
