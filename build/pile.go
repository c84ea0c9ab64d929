package build

import (
	"strata/api"
	"strata/calc"
	"strata/nodes"
)

// pile joins parts that are put on it. Once it is settled, each of its files has fewer than half the nodes of the one below it: so each node is gone through a few times, however many parts there are, and what is joined apart from the rest is not large beside it.
type pile struct {
	*site
	op    int
	heaps []heap
	parts int // that have been put
}

// heap is what some parts, put one behind the other, are joined to.
type heap struct {
	file  string
	first int // which part is the first of them
	end   api.Info
}

func (p *pile) top() heap { return p.heaps[len(p.heaps)-1] }

// put puts a part on the pile.
func (p *pile) put(x part) api.Errno {
	file, e := p.hold(x)
	if e != api.OK {
		return e
	}
	p.parts++
	return p.lay(file, p.parts-1)
}

// settle joins the last two files as long as the upper is not much less than the lower. It is asked for ahead of the next part, not behind the last one: that is joined into the file that is asked for.
func (p *pile) settle() api.Errno {
	for len(p.heaps) > 1 && p.heaps[len(p.heaps)-2].end.Nodes <= 2*p.top().end.Nodes {
		if e := p.merge(p.temp()); e != api.OK {
			return e
		}
	}
	return api.OK
}

// lay lays a file on the pile.
func (p *pile) lay(file string, first int) api.Errno {
	end, e := nodes.Look(p.desk, file)
	if e != api.OK {
		return e
	}
	p.heaps = append(p.heaps, heap{file, first, end})
	return api.OK
}

// merge joins the last two files.
func (p *pile) merge(to string) api.Errno {
	below := len(p.heaps) - 2
	lower, upper := p.heaps[below], p.heaps[below+1]
	if e := calc.Apply(p.desk, p.op, lower.file, upper.file, to); e != api.OK {
		return e
	}
	p.leave(lower.file, upper.file)
	p.heaps = p.heaps[:below]
	return p.lay(to, lower.first)
}

// gather joins until all that was put from a part on is in one file.
func (p *pile) gather(first int) api.Errno {
	for len(p.heaps) > 1 && p.top().first > first {
		if e := p.merge(p.temp()); e != api.OK {
			return e
		}
	}
	return api.OK
}

// redo makes another file of the last one.
func (p *pile) redo(do func(f, to string) api.Errno) api.Errno {
	last, to := p.top(), p.temp()
	if e := do(last.file, to); e != api.OK {
		return e
	}
	p.leave(last.file)
	p.heaps = p.heaps[:len(p.heaps)-1]
	return p.lay(to, last.first)
}

// decided tells whether no further part can change anything: the last file is a leaf beside which the operator does not look at the other side.
func (p *pile) decided() bool {
	if len(p.heaps) == 0 {
		return false
	}
	switch p.top().end.Root {
	case api.False:
		return p.op&3 == 0 || p.op&3 == 3
	case api.True:
		return p.op>>2 == 0 || p.op>>2 == 3
	}
	return false
}

// finish makes the file of all that was put.
func (p *pile) finish(to string) api.Errno {
	switch len(p.heaps) {
	case 0:
		return p.none(to)
	case 1: // what was put has decided all ahead of the last part
		only := p.top().file
		e := calc.Restrict(p.desk, only, nil, to)
		p.leave(only)
		return e
	}
	if e := p.gather(p.heaps[1].first); e != api.OK {
		return e
	}
	return p.merge(to)
}

// one is the file of all that was put, under a name of its own.
func (p *pile) one() (string, api.Errno) {
	if len(p.heaps) == 0 {
		to := p.temp()
		return to, p.none(to)
	}
	if e := p.gather(p.heaps[0].first); e != api.OK {
		return "", e
	}
	return p.top().file, api.OK
}

// none makes the file of no parts: of the truth beside which the operator is what the other side is.
func (p *pile) none(to string) api.Errno {
	return calc.Const(p.desk, p.vars, p.op>>2 == 2, to)
}
