package build

import (
	"slices"

	"strata/api"
	"strata/pqueue"
	"strata/recs"
	"strata/sweep"
	"strata/tape"
)

// layTable writes the arcs of a table's diagram, from the root down: its nodes are the pieces of the table, of which equal ones wait for their level side by side and become one.
func layTable(k *tape.Desk, vars int, table []bool, arcs string) api.Errno {
	d := &drawing{desk: k, vars: vars, table: table, print: fingerprint}
	return d.draw(arcs)
}

// piece is what a table is left with where the levels ahead of one have truths.
type piece struct {
	level int
	place int // among those of its level
}

// drawing is the writing of a table's arcs.
type drawing struct {
	desk    *tape.Desk
	vars    int
	table   []bool
	print   func(truths []bool) uint64
	hand    int           // records that are out of the purse for what is in hand
	waiting *pqueue.Queue // who waits for which pieces
	inner   *tape.Writer
	outer   *tape.Writer
	last    piece   // that came to its level
	self    api.Ptr // the node that it is
	root    api.Ptr
	nodes   int
}

// inHand is how many records are counted for a request, the one ahead of it, and an arc.
const inHand = 3

// request is that of an arc, which waits for the piece that it goes to.
type request struct {
	piece
	from uint64
	side uint64
}

// nobody waits for the root.
const nobody uint64 = api.Mark

const printBits = 40

// pack is the record of a request for a piece with that print. In the order of its words: by level, then by print, so that equal pieces come one behind the other, then as the arcs stand.
func (r request) pack(print uint64) api.Rec {
	return api.Rec{uint64(r.level)<<printBits | print, r.from, r.side, uint64(r.place)}
}

func unpack(r api.Rec) request {
	return request{piece{int(r[0] >> printBits), int(r[3])}, r[1], r[2]}
}

// draw writes the two tapes.
func (d *drawing) draw(arcs string) api.Errno {
	e := d.open(arcs)
	if e == api.OK {
		e = d.goDown()
	}
	return d.shut(e)
}

// open makes all that the drawing needs. What has been made is shut, whatever open answers.
func (d *drawing) open(arcs string) api.Errno {
	var e api.Errno
	if d.inner, e = d.desk.Write(sweep.Inner(arcs), api.KindInner); e != api.OK {
		return e
	}
	if d.outer, e = d.desk.Write(sweep.Outer(arcs), api.KindOuter); e != api.OK {
		return e
	}
	if e = d.desk.Purse().Take(inHand); e != api.OK {
		return e
	}
	d.hand = inHand
	d.waiting, e = pqueue.New(d.desk, api.Order{0, 1, 2, 3}, d.desk.Purse().Free())
	return e
}

// shut gives back all that the drawing has; the two tapes are closed, or dropped if something was refused.
func (d *drawing) shut(e api.Errno) api.Errno {
	if d.waiting != nil {
		d.waiting.Close()
	}
	d.desk.Purse().Give(d.hand)
	for _, w := range []*tape.Writer{d.inner, d.outer} {
		switch {
		case w == nil:
		case e != api.OK:
			w.Drop()
		default:
			e = w.Close()
		}
	}
	return e
}

// goDown writes all arcs, and the end.
func (d *drawing) goDown() api.Errno {
	if e := d.send(piece{}, nobody, 0); e != api.OK {
		return e
	}
	for d.waiting.Len() > 0 {
		rec, e := d.waiting.Pop()
		if e != api.OK {
			return e
		}
		if e := d.meet(unpack(rec)); e != api.OK {
			return e
		}
	}
	return d.outer.Put(api.Rec{api.Mark, uint64(d.vars), uint64(d.root), uint64(d.nodes)})
}

// send lets an arc wait for a piece, or tells it the leaf that this is.
func (d *drawing) send(p piece, from, side uint64) api.Errno {
	p = d.pass(p)
	if p.level < d.vars {
		return d.waiting.Push(request{p, from, side}.pack(d.print(d.truths(p))))
	}
	leaf := recs.Leaf(d.table[p.place])
	if from == nobody {
		d.root = leaf
		return api.OK
	}
	return d.outer.Put(api.Rec{from, side, uint64(leaf), 0})
}

// meet tells the one who asked which node the piece is.
func (d *drawing) meet(r request) api.Errno {
	if !d.isLast(r) {
		if e := d.enter(r); e != api.OK {
			return e
		}
	}
	if r.from == nobody {
		d.root = d.self
		return api.OK
	}
	return d.inner.Put(api.Rec{uint64(d.self), r.from, r.side, 0})
}

// isLast tells whether a request is for the piece that came last: two that are not equal may have the same print.
func (d *drawing) isLast(r request) bool {
	return d.nodes > 0 && slices.Equal(d.truths(r.piece), d.truths(d.last))
}

// enter makes the next node of a piece and sends its arcs on.
func (d *drawing) enter(r request) api.Errno {
	if d.nodes > 0 && r.level == d.last.level {
		d.self++
	} else {
		d.self, _ = recs.Inner(r.level, 0)
	}
	d.last = r.piece
	d.nodes++
	for side := range 2 {
		if e := d.send(piece{r.level + 1, 2*r.place + side}, uint64(d.self), uint64(side)); e != api.OK {
			return e
		}
	}
	return api.OK
}

// truths are those of a piece.
func (d *drawing) truths(p piece) []bool {
	size := 1 << (d.vars - p.level)
	return d.table[p.place*size:][:size]
}

// pass goes on from a piece to the first level that it hangs on.
func (d *drawing) pass(p piece) piece {
	for p.level < d.vars {
		all := d.truths(p)
		half := len(all) / 2
		if !slices.Equal(all[:half], all[half:]) {
			break
		}
		p = piece{p.level + 1, 2 * p.place}
	}
	return p
}

// fingerprint is a number that equal pieces have in common and others hardly ever do (FNV).
func fingerprint(truths []bool) uint64 {
	sum := uint64(14695981039346656037)
	for _, v := range truths {
		if v {
			sum ^= 1
		}
		sum *= 1099511628211
	}
	return sum >> (64 - printBits)
}
