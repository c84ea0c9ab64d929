package sweep

import (
	"strata/api"
	"strata/pqueue"
	"strata/tape"
	"strata/whole"
)

// passing keeps who has come to the states that are only passed on, until it is known what becomes of these. Each such state waits on as one, however many have come to it: else they would all have to wait anew at each stop that they come through.
type passing struct {
	desk     *tape.Desk
	name     string
	arrivals *tape.Writer  // (state, who has come to it), as the stops and the states rise
	became   *pqueue.Queue // what has become of the states, the last one first
}

func (p *passing) open(k *tape.Desk) api.Errno {
	var e api.Errno
	p.desk, p.name = k, k.Temp()
	p.arrivals, e = k.Write(p.name, api.KindRaw)
	return e
}

// shut gives back what is held, and deletes what is on the disk. (The queue is shut with the others.)
func (p *passing) shut() {
	if p.arrivals == nil {
		return
	}
	p.arrivals.Drop()
	whole.Remove(p.desk, p.name) // one that was closed already
}

// keep notes that one has come to a state.
func (p *passing) keep(self api.Ptr, from asker) api.Errno {
	return p.arrivals.Put(api.Rec{uint64(askerOfPass(self)), uint64(from)})
}

// tell notes what has become of a state.
func (p *passing) tell(pass asker, to api.Ptr) api.Errno {
	return p.became.Push(api.Rec{uint64(nobody - pass), uint64(to)})
}

// settle gives all who have come to a state what has become of it. It goes from the last state to the first: one that has come to another as it was passed on stands ahead of that.
func (p *passing) settle(give func(from asker, to api.Ptr) api.Errno) api.Errno {
	if e := p.arrivals.Close(); e != api.OK {
		return e
	}
	r, e := p.desk.Back(p.name, api.KindRaw)
	if e != api.OK {
		return e
	}
	defer r.Close()
	for p.became.Len() > 0 {
		rec, e := p.became.Pop()
		if e != api.OK {
			return e
		}
		if e := giveAll(r, uint64(nobody)-rec[0], api.Ptr(rec[1]), give); e != api.OK {
			return e
		}
	}
	return api.OK
}

// giveAll gives to all who have come to one state.
func giveAll(r *tape.Reader, pass uint64, to api.Ptr, give func(from asker, to api.Ptr) api.Errno) api.Errno {
	for {
		rec, some, e := r.Peek()
		if e != api.OK || !some || rec[0] != pass {
			return e
		}
		if e := give(asker(rec[1]), to); e != api.OK {
			return e
		}
		if _, _, e := r.Next(); e != api.OK {
			return e
		}
	}
}
