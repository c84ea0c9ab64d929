package tally

import (
	"strata/api"
	"strata/nodes"
	"strata/recs"
	"strata/tape"
)

// path is one of the paths from a root to the leaf True. No node of it is kept: the next path is found by going from the root again, by the text.
type path struct {
	root api.Ptr
	text []byte
	turn int // the deepest level at which it goes to the low and the high leads on too; -1: none, it is the last path
}

// newPath stands ahead of the first path of a diagram.
func newPath(end api.Info) *path {
	return &path{root: end.Root, text: make([]byte, end.Vars), turn: -1}
}

// next is the path behind this one, at a cursor ahead of the root: the same as far as to the turn, from there on the least.
func (p *path) next(c *nodes.Cursor) api.Errno {
	same := p.turn
	if same >= 0 {
		p.text[same] = '1'
	}
	for level := same + 1; level < len(p.text); level++ {
		p.text[level] = '-'
	}
	p.turn = -1
	for at := p.root; at != api.True; {
		node, some, e := c.Next()
		if e != api.OK {
			return e
		}
		if !some || recs.Level(node.Self) >= len(p.text) { // a low or a high is not there, or it is another file by now
			return api.ErrShape
		}
		if node.Self == at {
			at = p.step(node, same)
		}
	}
	return api.OK
}

// step goes on from a node: to the side that the text tells, if it is told up to there, else to the low, where that leads to the leaf True.
func (p *path) step(node api.Node, told int) api.Ptr {
	level := recs.Level(node.Self)
	high := node.Low == api.False
	if level <= told {
		high = p.text[level] == '1'
	}
	if high {
		p.text[level] = '1'
		return node.High
	}
	p.text[level] = '0'
	if node.High != api.False {
		p.turn = level
	}
	return node.Low
}

// least is the first assignment that the path is for.
func (p *path) least() []bool {
	bits := make([]bool, len(p.text))
	for level, side := range p.text {
		bits[level] = side == '1'
	}
	return bits
}

// give hands the next path out, while its cursor holds what it reads; whether there is another one, and it is wanted.
func (p *path) give(k *tape.Desk, f string, yield func(string, api.Errno) bool) bool {
	c, e := nodes.Down(k, f)
	if e != api.OK {
		yield("", e)
		return false
	}
	defer c.Close()
	if p.root == api.False {
		return false
	}
	if e := p.next(c); e != api.OK {
		yield("", e)
		return false
	}
	return yield(string(p.text), api.OK) && p.turn >= 0
}
