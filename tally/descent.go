package tally

import (
	"strata/api"
	"strata/nodes"
	"strata/pqueue"
	"strata/recs"
	"strata/tape"
	"strata/whole"
)

// descent sends a number from the root down: what comes to a node over the arcs to it is added up and goes on along its own two; what comes to the leaf True is the answer.
type descent[N any] struct {
	by    numbers[N]
	desk  *tape.Desk
	vars  int
	sum   N             // what has come to the leaf True
	held  map[api.Ptr]N // what is on its way to some nodes, each number a record of the purse
	room  int           // for so many
	queue *pqueue.Queue // what is on its way to others, in parts
}

// total is what comes to the leaf True when 1 is sent to the root.
func total[N any](k *tape.Desk, f string, end api.Info, by numbers[N]) (N, api.Errno) {
	d := &descent[N]{by: by, desk: k, vars: end.Vars, sum: by.zero(), held: map[api.Ptr]N{}}
	e := whole.Outcome(k, d.run(f, end.Root))
	if e != api.OK {
		var none N
		return none, e
	}
	return d.sum, api.OK
}

func (d *descent[N]) run(f string, root api.Ptr) api.Errno {
	c, e := nodes.Down(d.desk, f)
	if e != api.OK {
		return e
	}
	defer c.Close()
	defer d.giveBack()
	if e := d.shareOut(); e != api.OK {
		return e
	}
	if e := d.send(d.by.one(), -1, false, root); e != api.OK {
		return e
	}
	for node, e := range rest(c) {
		if e != api.OK {
			return e
		}
		if e := d.pass(node); e != api.OK {
			return e
		}
	}
	if len(d.held) > 0 || d.queue.Len() > 0 { // what was sent to nodes that are not there
		return api.ErrShape
	}
	return api.OK
}

// shareOut deals out what is free in the purse.
func (d *descent[N]) shareOut() api.Errno {
	half := d.desk.Purse().Free() / 2
	if e := d.desk.Purse().Take(half); e != api.OK {
		return e
	}
	d.room = half
	var e api.Errno
	d.queue, e = pqueue.New(d.desk, api.Order{0, 1, 2, 3}, d.desk.Purse().Free())
	return e
}

func (d *descent[N]) giveBack() {
	if d.queue != nil {
		d.queue.Close()
	}
	d.desk.Purse().Give(d.room)
}

// pass lets what has come to a node go on.
func (d *descent[N]) pass(node api.Node) api.Errno {
	a, some, e := d.take(node.Self)
	if e != api.OK {
		return e
	}
	if !some { // no arc leads here
		return api.ErrShape
	}
	level := recs.Level(node.Self)
	if e := d.send(a, level, false, node.Low); e != api.OK {
		return e
	}
	return d.send(a, level, true, node.High)
}

// send lets a number go along an arc from a level.
func (d *descent[N]) send(a N, from int, high bool, to api.Ptr) api.Errno {
	switch to {
	case api.False:
		return api.OK
	case api.True:
		d.sum = d.by.plus(d.sum, d.by.along(a, from, high, d.vars))
		return api.OK
	}
	a = d.by.along(a, from, high, recs.Level(to))
	if b, there := d.held[to]; there {
		d.held[to] = d.by.plus(a, b)
		return api.OK
	}
	if len(d.held) < d.room {
		d.held[to] = a
		return api.OK
	}
	for part := range d.by.parts(a, turned(to)) {
		if e := d.queue.Push(part); e != api.OK {
			return e
		}
	}
	return api.OK
}

// take is what has come to a node; false: nothing.
func (d *descent[N]) take(to api.Ptr) (N, bool, api.Errno) {
	a, some := d.held[to]
	delete(d.held, to)
	for d.queue.Len() > 0 {
		r, e := d.queue.Peek()
		if e == api.OK && r[0] != turned(to) {
			break
		}
		if e == api.OK {
			_, e = d.queue.Pop()
		}
		if e != api.OK {
			return a, false, e
		}
		if !some {
			a, some = d.by.zero(), true
		}
		a = d.by.plus(a, d.by.part(r))
	}
	return a, some, api.OK
}

// turned is a number by which nodes rise in the order of a cursor that goes down: level by level, but the ids of a level from the greatest on.
func turned(to api.Ptr) uint64 { return uint64(to) ^ api.MaxId }
