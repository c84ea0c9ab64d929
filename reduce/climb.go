package reduce

import (
	"strata/api"
	"strata/nodes"
	"strata/pqueue"
	"strata/recs"
	"strata/tape"
)

// climb is a reduction that goes on: level by level its nodes are gathered from what their children have become, numbered, and told to their parents. On the way all that makes arcs sound is looked at.
type climb struct {
	desk   *tape.Desk
	end    api.Info      // of the arcs
	inner  *tape.Reader  // arcs to nodes, from the deepest child up
	outer  *tape.Reader  // arcs to leaves, from the deepest parent up
	news   *pqueue.Queue // what the children of nodes of higher levels have become
	row    *pqueue.Queue // the nodes of this level whose arcs are not equal
	became *pqueue.Queue // what the nodes of this level have become
	out    *nodes.Builder
	hand   int     // records that are out of the purse for what is in hand
	level  int     // of last; the number of levels ahead of the first node
	last   api.Ptr // the node that was gathered last
	count  int     // nodes that have been gathered
	root   api.Ptr // what it has become
}

// branch is what a node leads to. Nodes of one level that lead to the same are one.
type branch struct {
	low  api.Ptr
	high api.Ptr
}

// inHand is how many records are counted for a node, what it leads to, and the like.
const inHand = 4

func plain() api.Order { return api.Order{0, 1, 2, 3} }

// open makes all that the climb needs. What has been made is shut, whatever open answers.
func (c *climb) open(inner, outer, out string) api.Errno {
	var e api.Errno
	if c.inner, e = c.desk.Back(inner, api.KindInner); e != api.OK {
		return e
	}
	if c.outer, e = c.desk.Back(outer, api.KindOuter); e != api.OK {
		return e
	}
	if _, _, e = c.outer.Next(); e != api.OK { // the end
		return e
	}
	if c.out, e = nodes.Begin(c.desk, out, c.end.Vars); e != api.OK {
		return e
	}
	c.level = c.end.Vars
	return c.shareOut()
}

// shareOut deals out what is free in the purse.
func (c *climb) shareOut() api.Errno {
	e := c.desk.Purse().Take(inHand)
	if e != api.OK {
		return e
	}
	c.hand = inHand
	share := c.desk.Purse().Free() / 3
	if c.row, e = pqueue.New(c.desk, plain(), share); e != api.OK {
		return e
	}
	if c.became, e = pqueue.New(c.desk, plain(), share); e != api.OK {
		return e
	}
	c.news, e = pqueue.New(c.desk, plain(), c.desk.Purse().Free())
	return e
}

// shut gives back all that the climb has; a file that has not been done is deleted.
func (c *climb) shut() {
	for _, q := range []*pqueue.Queue{c.news, c.row, c.became} {
		if q != nil {
			q.Close()
		}
	}
	for _, r := range []*tape.Reader{c.inner, c.outer} {
		if r != nil {
			r.Close()
		}
	}
	if c.out != nil {
		c.out.Drop()
	}
	c.desk.Purse().Give(c.hand)
}

// goUp makes the node file, from the deepest level on.
func (c *climb) goUp() api.Errno {
	for {
		self, some, e := c.deepest()
		if e != api.OK {
			return e
		}
		if !some {
			return c.arrive()
		}
		for _, step := range []func(level int) api.Errno{c.gather, c.number, c.tell} {
			if e := step(recs.Level(self)); e != api.OK {
				return e
			}
		}
	}
}

// deepest is the deepest node, of a level the last one, of which arcs are left that can be told.
func (c *climb) deepest() (api.Ptr, bool, api.Errno) {
	arc, some, e := c.outer.Peek()
	if e != api.OK {
		return 0, false, e
	}
	self := api.Ptr(arc[0])
	if c.news.Len() == 0 {
		return self, some, api.OK
	}
	tidings, e := c.news.Peek()
	if e != api.OK {
		return 0, false, e
	}
	return max(self, parentOf(tidings)), true, api.OK // no arc is left: self is 0, the least of all
}

// gather takes the nodes of a level. One with equal arcs has become what they lead to.
func (c *climb) gather(level int) api.Errno {
	for {
		self, some, e := c.deepest()
		if e != api.OK {
			return e
		}
		if !some || recs.Level(self) != level {
			break
		}
		if !c.mayFollow(self) {
			return api.ErrArcs
		}
		to, e := c.branchOf(self)
		if e != api.OK {
			return e
		}
		if to.low == to.high {
			e = c.became.Push(fateRecord(self, to.low))
		} else {
			e = c.row.Push(rowRecord(level, self, to))
		}
		if e != api.OK {
			return e
		}
		c.level, c.last = level, self
		c.count++
	}
	if idOf(c.last) != 0 {
		return api.ErrArcs
	}
	return api.OK
}

// mayFollow tells whether a node may come behind the last one: the ids of a level fall one by one.
func (c *climb) mayFollow(self api.Ptr) bool {
	level := recs.Level(self)
	return isNode(self) && (level < c.level || level == c.level && self == c.last-1)
}

// branchOf is what a node leads to. ErrArcs: it has not just one arc of each side.
func (c *climb) branchOf(self api.Ptr) (branch, api.Errno) {
	high, e := c.follow(self, 1)
	if e != api.OK {
		return branch{}, e
	}
	low, e := c.follow(self, 0)
	return branch{low, high}, e
}

// follow takes the arc of a node at a side: a leaf, or what the child there has become.
func (c *climb) follow(self api.Ptr, side uint64) (api.Ptr, api.Errno) {
	arc, _, e := c.outer.Peek() // where none is left: no leaf
	if e != api.OK {
		return 0, e
	}
	if to := api.Ptr(arc[2]); isLeaf(to) && arc == (api.Rec{uint64(self), side, uint64(to)}) {
		_, _, e := c.outer.Next()
		return to, e
	}
	if c.news.Len() == 0 {
		return 0, api.ErrArcs
	}
	tidings, e := c.news.Pop()
	if e != api.OK {
		return 0, e
	}
	if tidings[0] != newsKey(self, side) {
		return 0, api.ErrArcs
	}
	return api.Ptr(tidings[1]), api.OK
}

// number puts the nodes of a level whose arcs are not equal into the file, those that are alike as one.
func (c *climb) number(level int) api.Errno {
	var last branch // its arcs are equal, so it is like none
	var now api.Ptr
	for c.row.Len() > 0 {
		rec, e := c.row.Pop()
		if e != api.OK {
			return e
		}
		if to := (branch{api.Ptr(rec[1]), api.Ptr(rec[2])}); to != last {
			if now, e = c.out.Add(level, to.low, to.high); e != api.OK {
				return e
			}
			last = to
		}
		if e := c.became.Push(fateRecord(api.Ptr(rec[3]), now)); e != api.OK {
			return e
		}
	}
	return api.OK
}

// tell sends what the nodes of a level have become to their parents. ErrArcs: one has none, and is not the root.
func (c *climb) tell(level int) api.Errno {
	for c.became.Len() > 0 {
		rec, e := c.became.Pop()
		if e != api.OK {
			return e
		}
		self, now := selfOf(rec), api.Ptr(rec[1])
		parents, e := c.tellParents(level, self, now)
		if e != api.OK {
			return e
		}
		if self == c.end.Root {
			c.root = now
		} else if parents == 0 {
			return api.ErrArcs
		}
	}
	return api.OK
}

// tellParents sends what a node of that level has become to its parents, and counts them.
func (c *climb) tellParents(level int, self, now api.Ptr) (int, api.Errno) {
	key := uint64(0) // of the parent that was told last: their keys rise
	for n := 0; ; n++ {
		arc, some, e := c.inner.Peek()
		if e != api.OK || !some || api.Ptr(arc[0]) != self {
			return n, e
		}
		from, side := api.Ptr(arc[1]), arc[2]
		if !isNode(from) || recs.Level(from) >= level || side > 1 || arc[3] != 0 || newsKey(from, side) <= key {
			return 0, api.ErrArcs
		}
		key = newsKey(from, side)
		if e := c.news.Push(api.Rec{key, uint64(now)}); e != api.OK {
			return 0, e
		}
		if _, _, e := c.inner.Next(); e != api.OK {
			return 0, e
		}
	}
}

// arrive ends the file, when all that could be told has been. Each node that was gathered has a parent or is the root; so the highest one is the root.
func (c *climb) arrive() api.Errno {
	_, some, e := c.inner.Peek()
	if e != api.OK {
		return e
	}
	if some || c.count != c.end.Nodes { // an arc to a node that has no arcs, or nodes that have none
		return api.ErrArcs
	}
	return c.out.Done(c.root)
}
