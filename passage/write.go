package passage

import (
	"strata/api"
	"strata/nodes"
	"strata/recs"
	"strata/tape"
	"strata/whole"
)

// Write makes a node file of the nodes that add puts, and of the root that it tells.
func Write(k *tape.Desk, vars int, add func(b *nodes.Builder) (api.Ptr, api.Errno), out string) api.Errno {
	b, e := nodes.Begin(k, out, vars)
	if e != api.OK {
		return e
	}
	root, e := add(b)
	if e == api.OK {
		e = b.Done(root)
	}
	if e != api.OK {
		b.Drop() // its records are given back, where Done has not done so
		whole.Remove(k, out)
	}
	return e
}

// Goal tells to which level one goes; false: it should have no nodes. Goals rise as the levels do.
type Goal func(level int) (int, bool)

// Relabel makes of a node file the same one over so many levels, in which each node is at the goal of its level. Their order stays, and so the ids do.
func Relabel(k *tape.Desk, f string, vars int, to Goal, out string) api.Errno {
	return Write(k, vars, func(b *nodes.Builder) (api.Ptr, api.Errno) {
		end, e := nodes.Look(k, f)
		if e != api.OK {
			return 0, e
		}
		c, e := nodes.Up(k, f)
		if e != api.OK {
			return 0, e
		}
		defer c.Close()
		for {
			node, some, e := c.Next()
			if e != api.OK {
				return 0, e
			}
			if !some {
				return to.pointer(end.Root)
			}
			if e := to.add(b, node); e != api.OK {
				return 0, e
			}
		}
	}, out)
}

// add puts a node at its new level.
func (to Goal) add(b *nodes.Builder, node api.Node) api.Errno {
	var now [3]api.Ptr
	for i, p := range [3]api.Ptr{node.Self, node.Low, node.High} {
		q, e := to.pointer(p)
		if e != api.OK {
			return e
		}
		now[i] = q
	}
	_, e := b.Add(recs.Level(now[0]), now[1], now[2])
	return e
}

// pointer is a pointer with its new level.
func (to Goal) pointer(p api.Ptr) (api.Ptr, api.Errno) {
	level, id, leaf, _, _ := recs.Split(p)
	if leaf {
		return p, api.OK
	}
	now, there := to(level)
	if !there { // a low or a high is at a level at which there is no node
		return 0, api.ErrShape
	}
	return recs.Inner(now, id)
}
