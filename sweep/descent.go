package sweep

import (
	"strata/api"
	"strata/pqueue"
	"strata/recs"
	"strata/tape"
)

// descent is a sweep that goes on: stop by stop its states are numbered, their pointers looked up, and their children sent on to wait at deeper stops.
type descent struct {
	plan
	desk     *tape.Desk
	vars     int
	sources  [3]*source
	requests *pqueue.Queue // who waits for which states
	asks     *pqueue.Queue // what the states of this stop have to look up, in the order of the files' way down
	told     *pqueue.Queue // the states of this stop, each with what has been looked up for it
	inner    *tape.Writer
	outer    *tape.Writer
	passing  passing
	fates    map[state]fate // of the tuples that the states of this stop lead to: many lead to the same
	room     int            // how many fates there may be
	hand     int            // records that are out of the purse for the fates, and for what is in hand
	nodes    int
	root     api.Ptr
}

// inHand is how many records are counted for a request, a state with its kids, and the like.
const inHand = 6

func plain() api.Order { return api.Order{0, 1, 2, 3} }

// open makes all that the descent needs. What has been made is shut, whatever open answers.
func (d *descent) open(inner, outer string) api.Errno {
	var e api.Errno
	if d.sources, e = openSources(d.desk, d.files); e != api.OK {
		return e
	}
	if d.inner, e = d.desk.Write(inner, api.KindInner); e != api.OK {
		return e
	}
	if d.outer, e = d.desk.Write(outer, api.KindOuter); e != api.OK {
		return e
	}
	if d.plan.passes {
		if e := d.passing.open(d.desk); e != api.OK {
			return e
		}
	}
	return d.shareOut()
}

// shareOut deals out what is free in the purse.
func (d *descent) shareOut() api.Errno {
	share := d.desk.Purse().Free() / 5
	if e := d.desk.Purse().Take(share); e != api.OK {
		return e
	}
	d.hand, d.room = share, (share-inHand)/2
	var e api.Errno
	if d.asks, e = pqueue.New(d.desk, plain(), share); e != api.OK {
		return e
	}
	if d.told, e = pqueue.New(d.desk, plain(), share); e != api.OK {
		return e
	}
	if d.plan.passes {
		if d.passing.became, e = pqueue.New(d.desk, plain(), share); e != api.OK {
			return e
		}
	}
	d.requests, e = pqueue.New(d.desk, plain(), d.desk.Purse().Free())
	return e
}

// goDown makes the diagram from its root on.
func (d *descent) goDown() api.Errno {
	d.fates = map[state]fate{}
	if e := d.send(nobody, d.plan.root); e != api.OK {
		return e
	}
	for d.requests.Len() > 0 {
		first, e := d.requests.Peek()
		if e != api.OK {
			return e
		}
		at := unpack(first).at
		d.fates = map[state]fate{}
		for _, step := range []func(stop) api.Errno{d.arrive, d.answer, d.goOn} {
			if e := step(at); e != api.OK {
				return e
			}
		}
	}
	if d.plan.passes {
		if e := d.passing.settle(d.give); e != api.OK {
			return e
		}
	}
	return d.outer.Put(endRecord(api.Info{Vars: d.vars, Root: d.root, Nodes: d.nodes}))
}

// send tells the one who asks what becomes of a tuple, or lets him wait for it.
func (d *descent) send(from asker, s state) api.Errno {
	f := d.fateOf(s)
	if f.at == nowhere {
		return d.give(from, f.state[0])
	}
	return d.requests.Push(request{f, from}.pack())
}

func (d *descent) fateOf(s state) fate {
	f, known := d.fates[s]
	if !known {
		f = d.become(s)
		if len(d.fates) < d.room {
			d.fates[s] = f
		}
	}
	return f
}

// give tells the one who asked to what his arc goes.
func (d *descent) give(from asker, to api.Ptr) api.Errno {
	switch {
	case from == nobody:
		d.root = to
		return api.OK
	case from.isPass():
		return d.passing.tell(from, to)
	case isLeaf(to):
		return d.outer.Put(outerRecord(from.node(), from.side(), to))
	}
	return d.inner.Put(innerRecord(from.node(), from.side(), to))
}

// arrive numbers the states of a stop: equal ones come one behind the other.
func (d *descent) arrive(at stop) api.Errno {
	count := 0
	var last state
	for d.requests.Len() > 0 {
		first, e := d.requests.Peek()
		if e != api.OK {
			return e
		}
		r := unpack(first)
		if r.at != at {
			break
		}
		if _, e := d.requests.Pop(); e != api.OK {
			return e
		}
		if count == 0 || r.state != last {
			if e := d.enter(at, count, r.state); e != api.OK {
				return e
			}
			last = r.state
			count++
		}
		if e := d.meet(at, count-1, r.from); e != api.OK {
			return e
		}
	}
	if !at.passes() {
		d.nodes += count
	}
	return api.OK
}

// meet tells the one who waited for a state where it is.
func (d *descent) meet(at stop, id int, from asker) api.Errno {
	self, e := recs.Inner(at.level(), id)
	if e != api.OK {
		return e
	}
	if at.passes() {
		return d.passing.keep(self, from)
	}
	return d.give(from, self)
}

// enter takes a state into its stop and asks for the nodes of the level that it points to.
func (d *descent) enter(at stop, id int, s state) api.Errno {
	key := uint64(at)<<idBits | uint64(id)
	if e := d.told.Push(api.Rec{key << 2, uint64(s[0]), uint64(s[1]), uint64(s[2])}); e != api.OK {
		return e
	}
	for i, p := range s {
		if recs.Level(p) != at.level() {
			continue
		}
		file := firstOf(d.files, i)
		ask := api.Rec{uint64(at.level())<<2 | uint64(file), api.MaxId - uint64(p&api.MaxId), key, uint64(i)}
		if e := d.asks.Push(ask); e != api.OK {
			return e
		}
	}
	return api.OK
}

// answer looks up what was asked for. A file's way down goes by falling ids, so that is the order of the asks.
func (d *descent) answer(at stop) api.Errno {
	for d.asks.Len() > 0 {
		ask, e := d.asks.Pop()
		if e != api.OK {
			return e
		}
		node, e := d.sources[ask[0]&3].find(at.node(api.MaxId - ask[1]))
		if e != api.OK {
			return e
		}
		if e := d.told.Push(api.Rec{ask[2]<<2 | (ask[3] + 1), uint64(node.Low), uint64(node.High)}); e != api.OK {
			return e
		}
	}
	return api.OK
}

// goOn sends the children of the states of a stop on.
func (d *descent) goOn(at stop) api.Errno {
	for d.told.Len() > 0 {
		id, s, of, e := d.nextState()
		if e != api.OK {
			return e
		}
		self := at.node(id)
		if at.passes() {
			if e := d.send(askerOfPass(self), d.child(at, s, of, 0)); e != api.OK {
				return e
			}
			continue
		}
		for side := range 2 {
			if e := d.send(askerOfSide(self, side), d.child(at, s, of, side)); e != api.OK {
				return e
			}
		}
	}
	return api.OK
}

// nextState is the next state of a stop with its kids.
func (d *descent) nextState() (uint64, state, kids, api.Errno) {
	rec, e := d.told.Pop()
	if e != api.OK {
		return 0, state{}, kids{}, e
	}
	key := rec[0] >> 2
	s := state{api.Ptr(rec[1]), api.Ptr(rec[2]), api.Ptr(rec[3])}
	of := kids{{s[0], s[0]}, {s[1], s[1]}, {s[2], s[2]}}
	for d.told.Len() > 0 {
		next, e := d.told.Peek()
		if e != api.OK {
			return 0, state{}, kids{}, e
		}
		if next[0]>>2 != key {
			break
		}
		of[next[0]&3-1] = [2]api.Ptr{api.Ptr(next[1]), api.Ptr(next[2])}
		if _, e := d.told.Pop(); e != api.OK {
			return 0, state{}, kids{}, e
		}
	}
	return key & api.MaxId, s, of, api.OK
}
