package build

import (
	"cmp"
	"slices"

	"strata/api"
	"strata/calc"
	"strata/passage"
)

// relation are a circuit's steps as they are built: over the levels of the latches, and levels of the inputs between them, which are quantified.
type relation struct {
	*net
	latches []int
	now     []int
	next    []int
	moved   []int    // by level: which one it is with the inputs' levels between
	spent   [][]wire // by latch: the inputs that no further one asks for
}

// wire is an input that the latches' next values hang on.
type wire struct {
	line   int
	behind int // the level behind which its own is put
	first  int // which latch is the first that asks for it
}

// relation is true where some truths of the inputs lead from the latches' values now to those next.
func (s *site) relation(c api.Circuit, now, next []int) part {
	r := &relation{net: newNet(s, c.Gates), latches: linesOf(c, api.GaLatch), now: now, next: next}
	wires := r.wires()
	r.spend(wires)
	vars := s.vars
	r.spread(wires)
	parts := r.parts()
	return single(func(to string) api.Errno {
		f, e := r.steps(parts)
		if e != api.OK {
			return e
		}
		back := func(level int) (int, bool) { return slices.BinarySearch(r.moved, level) }
		return passage.Relabel(s.desk, f, vars, back, to)
	})
}

// wires are the inputs that are asked for. Behind which level one is put does not count for what is built, but for how large it is on the way: those that are asked for together stand together.
func (r *relation) wires() []wire {
	for i, latch := range r.latches {
		r.levels[latch] = r.now[i]
	}
	var out []wire
	t := newTour(r.gates)
	for i, latch := range r.latches {
		here := r.next[i]
		t.from(r.gates[latch].A, func(point int) {
			if r.gates[point].Kind == api.GaLatch {
				here = r.levels[point]
				return
			}
			out = append(out, wire{point, here, i})
		})
	}
	return out
}

// spend finds the last latch that asks for each input.
func (r *relation) spend(wires []wire) {
	byLine := make([]wire, len(r.gates))
	for _, w := range wires {
		byLine[w.line] = w
	}
	r.spent = make([][]wire, len(r.latches))
	t := newTour(r.gates)
	for i, latch := range slices.Backward(r.latches) {
		t.from(r.gates[latch].A, func(point int) {
			if r.gates[point].Kind == api.GaInput {
				r.spent[i] = append(r.spent[i], byLine[point])
			}
		})
	}
}

// spread puts the inputs' levels between those that are there.
func (r *relation) spread(wires []wire) {
	slices.SortStableFunc(wires, func(a, b wire) int { return cmp.Compare(a.behind, b.behind) })
	r.moved = make([]int, r.vars)
	put := 0
	for level := range r.moved {
		r.moved[level] = level + put
		for put < len(wires) && wires[put].behind == level {
			put++
			r.levels[wires[put-1].line] = level + put
		}
	}
	r.vars += put
	for i, latch := range r.latches {
		r.levels[latch] = r.moved[r.now[i]]
	}
}

// parts are what the latches say: that the next value is what it is taken from.
func (r *relation) parts() []part {
	for _, latch := range r.latches {
		r.ask(r.gates[latch].A)
	}
	var out []part
	for i, latch := range r.latches {
		out = append(out, r.join(api.OpIff, r.level(r.moved[r.next[i]]), r.partOf(r.row(r.gates[latch].A))))
	}
	return out
}

// steps is the file of all parts, without the inputs: each is quantified as soon as all that ask for it are joined.
func (r *relation) steps(parts []part) (string, api.Errno) {
	p := &pile{site: r.site, op: api.OpAnd}
	for i, x := range parts {
		if e := p.put(x); e != api.OK {
			return "", e
		}
		if e := r.quantifySpent(p, i); e != api.OK {
			return "", e
		}
		if e := p.settle(); e != api.OK {
			return "", e
		}
	}
	return p.one()
}

// quantifySpent quantifies the inputs that no latch behind this one asks for.
func (r *relation) quantifySpent(p *pile, latch int) api.Errno {
	if len(r.spent[latch]) == 0 {
		return api.OK
	}
	first := latch
	var levels []int
	for _, w := range r.spent[latch] {
		first = min(first, w.first)
		levels = append(levels, r.levels[w.line])
	}
	if e := p.gather(first); e != api.OK {
		return e
	}
	return p.redo(func(f, to string) api.Errno { return calc.Exists(r.desk, f, levels, to) })
}

// tour goes from lines to those that they ask for: once over each gate, multiplexer and input, and to a latch as often as it is asked for.
type tour struct {
	gates []api.Gate
	gone  []bool
}

func newTour(gates []api.Gate) *tour { return &tour{gates, make([]bool, len(gates))} }

// from calls meet with each point that is come to.
func (t *tour) from(line int, meet func(point int)) {
	if t.gone[line] {
		return
	}
	g := t.gates[line]
	t.gone[line] = g.Kind != api.GaLatch
	if g.Kind == api.GaLatch || g.Kind == api.GaInput {
		meet(line)
		return
	}
	for _, next := range asks(g) {
		t.from(next, meet)
	}
}
