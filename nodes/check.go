package nodes

import (
	"strata/api"
	"strata/pqueue"
	"strata/recs"
	"strata/tape"
)

// Check tells whether a file is a well-formed node file.
func Check(k *tape.Desk, name string) api.Errno {
	files, e := begin(k, name)
	if e != api.OK {
		return e
	}
	c, e := files[0].down()
	if e != api.OK {
		return e
	}
	defer c.Close()
	q, e := pqueue.New(k, api.Order{0, 1, 2, 3}, k.Purse().Free())
	if e != api.OK {
		return e
	}
	e = check(c, q)
	if off := q.Close(); off != api.OK { // power that goes off there is told in the place of e
		return off
	}
	return e
}

// check goes from the root to the deepest node. A pointer waits in the queue from the node that it is the low or high of on, until the cursor comes to the node that it points to: for each node one must wait, and none may be left.
func check(c *Cursor, q *pqueue.Queue) api.Errno {
	e := wait(q, c.info.Root)
	if e != api.OK {
		return e
	}
nodes:
	for {
		node, some, f := c.Next()
		if e = f; e != api.OK || !some {
			break nodes
		}
		if e = meet(q, node.Self); e != api.OK {
			break nodes
		}
		for _, p := range []api.Ptr{node.Low, node.High} {
			if e = wait(q, p); e != api.OK {
				break nodes
			}
		}
	}
	if e == api.OK && q.Len() > 0 {
		return api.ErrShape
	}
	return e
}

// turn is a node's place on the way down, as a record: the levels rise there, the ids of a level fall.
func turn(p api.Ptr) api.Rec {
	return api.Rec{uint64(recs.Level(p)), uint64(api.MaxId - idOf(p))}
}

// wait puts a pointer into the queue; a leaf is not waited for.
func wait(q *pqueue.Queue, p api.Ptr) api.Errno {
	if isLeaf(p) {
		return api.OK
	}
	return q.Push(turn(p))
}

// meet takes all that wait for this node out of the queue; ErrShape, if it is not the next one that is waited for.
func meet(q *pqueue.Queue, self api.Ptr) api.Errno {
	e := api.ErrShape
	for q.Len() > 0 {
		next, f := q.Peek()
		if f != api.OK {
			return f
		}
		if next != turn(self) {
			return e
		}
		if _, f := q.Pop(); f != api.OK {
			return f
		}
		e = api.OK
	}
	return e
}
