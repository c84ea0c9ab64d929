package reach

import "strata/api"

// search goes on from a set, round by round: the states of a round are those that one step more comes to than the rounds ahead of it.
type search struct {
	*world
	by    func(set, to string) // post or pre
	open  string               // the states that it may come to and has not
	front string               // those of the last round
}

// round goes one step on; false: there is nothing more to come to.
func (s *search) round() bool {
	led := s.desk.Temp()
	s.by(s.front, led)
	fresh := s.applied(api.OpAnd, led, s.open)
	s.drop(led)
	if !s.some(fresh) {
		s.drop(fresh)
		return false
	}
	left := s.applied(api.OpDiff, s.open, fresh)
	s.drop(s.open)
	s.open, s.front = left, fresh
	return true
}

// exhaust goes on as long as there is something to come to. How many rounds came to something; of their sets none is kept.
func (s *search) exhaust() int {
	first := s.front // which is not the search's own
	for rounds := 0; ; rounds++ {
		last := s.front
		more := s.round()
		if last != first {
			s.drop(last)
		}
		if !more {
			return rounds
		}
	}
}

// closure makes the set of states that any number of steps leads to, or from; how many are needed at most.
func (w *world) closure(by func(set, to string), set, to string) int {
	s := &search{w, by, w.applied(api.OpNotA, set, set), set}
	rounds := s.exhaust()
	w.apply(api.OpNotA, s.open, s.open, to)
	w.drop(s.open)
	return rounds
}

// until makes the set of states from which a way within while leads into end.
func (w *world) until(while, end, to string) {
	s := &search{w, w.pre, w.applied(api.OpDiff, while, end), end}
	s.exhaust()
	within := w.applied(api.OpDiff, while, s.open)
	w.drop(s.open)
	w.apply(api.OpOr, end, within, to)
	w.drop(within)
}

// always makes the set of states from which a way without an end stays within a set: those from which no step leads into what is left of it are taken out, time and again.
func (w *world) always(set, to string) {
	for rest := set; ; {
		before := w.desk.Temp()
		w.pre(rest, before)
		lost := w.applied(api.OpDiff, rest, before)
		left := to
		if w.some(lost) {
			left = w.desk.Temp()
		}
		w.apply(api.OpAnd, rest, before, left)
		w.drop(before, lost)
		if rest != set {
			w.drop(rest)
		}
		if left == to {
			return
		}
		rest = left
	}
}
