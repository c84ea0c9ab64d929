package sweep

import (
	"strata/api"
	"strata/pqueue"
	"strata/sorter"
	"strata/tape"
	"strata/whole"
)

// run makes the two tapes of a plan; if that is refused, neither is there.
func run(k *tape.Desk, vars int, p plan, out string) api.Errno {
	if !p.passes {
		return whole.Outcome(k, p.descend(k, vars, Inner(out), Outer(out)))
	}
	// What has become of a state that is passed on is known late: the arcs do not come in their order.
	inner, outer := k.Temp(), k.Temp()
	e := p.descend(k, vars, inner, outer)
	if e == api.OK {
		e = sortTape(k, inner, Inner(out), api.KindInner)
	}
	if e == api.OK {
		e = sortTape(k, outer, Outer(out), api.KindOuter) // the end stays last: nothing is behind a Mark
	}
	whole.Remove(k, inner, outer)
	if e != api.OK {
		whole.Remove(k, Inner(out), Outer(out))
	}
	return whole.Outcome(k, e)
}

func sortTape(k *tape.Desk, in, out string, kind int) api.Errno {
	return sorter.Sort(k, in, out, kind, plain(), false, k.Purse().Free())
}

// descend makes the two tapes under these names; if that is refused, neither is there.
func (p plan) descend(k *tape.Desk, vars int, inner, outer string) api.Errno {
	d := &descent{plan: p, desk: k, vars: vars}
	e := d.open(inner, outer)
	if e == api.OK {
		e = d.goDown()
	}
	d.shut()
	e = d.end(e)
	if e != api.OK {
		whole.Remove(k, inner, outer)
	}
	return e
}

// shut gives back all that the descent has but its two tapes.
func (d *descent) shut() {
	for _, q := range []*pqueue.Queue{d.requests, d.asks, d.told, d.passing.became} {
		if q != nil {
			q.Close()
		}
	}
	for _, s := range d.sources {
		if s != nil {
			s.cursor.Close()
		}
	}
	d.passing.shut()
	d.desk.Purse().Give(d.hand)
}

// end closes the two tapes, or drops them if something was refused.
func (d *descent) end(e api.Errno) api.Errno {
	for _, w := range []*tape.Writer{d.inner, d.outer} {
		switch {
		case w == nil:
		case e != api.OK:
			w.Drop()
		default:
			e = w.Close()
		}
	}
	return e
}
