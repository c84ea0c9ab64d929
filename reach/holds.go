package reach

import (
	"strata/api"
	"strata/calc"
)

// inquiry asks the parts of a property for their sets.
type inquiry struct {
	*world
	plan   *plan
	askers []int          // by part: how often it is asked for in all
	known  map[int]answer // by part: what has been answered and is still needed
}

// answer is the file of a part's set.
type answer struct {
	file string
	left int // how many need it, or will ask for it
}

// holds makes the set of states in which a property holds.
func (w *world) holds(t tree, to string) {
	p := newPlan(w.sets)
	root := p.of(t)
	q := &inquiry{w, p, p.askers(root), map[int]answer{}}
	q.find(root, to)
}

// find makes the set of a part.
func (q *inquiry) find(n int, to string) {
	x := q.plan.parts[n]
	if x.says < sayJoined {
		q.plain(x, to)
		return
	}
	first, second := q.askBoth(x.first, x.second)
	switch x.says {
	case sayJoined:
		q.apply(x.n, first, second, to)
	case sayEX:
		q.pre(first, to)
	case sayEF:
		q.closure(q.pre, first, to)
	case sayEG:
		q.always(first, to)
	case sayEU:
		q.until(first, second, to)
	}
	q.leave(x.first)
	q.leave(x.second)
}

// plain makes the set of a part that speaks of no others.
func (q *inquiry) plain(x part, to string) {
	q.do(func() api.Errno {
		if x.says == sayNamed {
			return calc.Restrict(q.desk, q.sets[x.n], nil, to)
		}
		return calc.Const(q.desk, len(q.order), x.n == 1, to)
	})
}

// askBoth are the files of two parts. The deeper one is found first: while one is found, what is found ahead of it waits, and so on within it.
func (q *inquiry) askBoth(x, y int) (string, string) {
	if q.plan.depths[x] < q.plan.depths[y] {
		second := q.ask(y)
		return q.ask(x), second
	}
	first := q.ask(x)
	return first, q.ask(y)
}

// ask is the file of a part, which is there until it is left.
func (q *inquiry) ask(n int) string {
	if x := q.plan.parts[n]; x.says == sayNamed {
		return q.sets[x.n]
	}
	a, there := q.known[n]
	if !there {
		a = answer{q.desk.Temp(), q.askers[n]}
		q.find(n, a.file)
		q.known[n] = a
	}
	return a.file
}

// leave is told by one who has asked for a part and needs it no longer: behind the last one it is forgotten.
func (q *inquiry) leave(n int) {
	a, there := q.known[n]
	if !there { // a set's own file
		return
	}
	if a.left--; a.left > 0 {
		q.known[n] = a
		return
	}
	q.drop(a.file)
	delete(q.known, n)
}
