package pqueue

import (
	"slices"

	"strata/api"
	"strata/tape"
)

// run is a temporary whose records rise, and the first of them that has not been taken out. The reader has room for it: it was one of the block that the reader holds.
type run struct {
	name   string
	reader *tape.Reader
	head   api.Rec
	rank   int // how often its records have been merged, at most
}

// runs are what a queue has on the disk. No run has a higher rank than the one ahead of it.
type runs struct {
	whole *tape.Desk // gives the names
	desk  *tape.Desk // its purse is the queue's share
	most  int        // how many there may be: each has a block in memory
	list  []*run     // all that have files, also one that could not be written to its end
	heads heap[*run] // those that have records, by their heads
	spent bool       // the head in front has been taken out, and the disk not yet asked for the next one
}

// filler puts the records of a run that is being made.
type filler func(w *tape.Writer) api.Errno

// settle makes the head in front one that has not been taken out. It is done as late as it can be: so a Pop behind a Peek asks the disk for nothing.
func (s *runs) settle() api.Errno {
	if !s.spent {
		return api.OK
	}
	s.spent = false
	return s.step(&s.heads)
}

// step asks the run in front of a heap for its next record.
func (s *runs) step(h *heap[*run]) api.Errno {
	some, e := s.next(h.front())
	switch {
	case e != api.OK:
		return e
	case some:
		h.sink()
	default:
		h.pop()
	}
	return api.OK
}

// next takes the next record of a run as its head; false: there was none, and the run is gone.
func (s *runs) next(r *run) (bool, api.Errno) {
	rec, some, e := r.reader.Next()
	if e != api.OK || some {
		r.head = rec
		return some, e
	}
	r.reader.Close()
	if e := s.desk.Disk().Delete(r.name); e != api.OK {
		return false, e
	}
	s.list = slices.DeleteFunc(s.list, func(other *run) bool { return other == r })
	return false, api.OK
}

// add makes a run of that rank, for which there must be room.
func (s *runs) add(rank int, fill filler) api.Errno {
	r := &run{name: s.whole.Temp(), rank: rank}
	w, e := s.desk.Write(r.name, api.KindRaw)
	if e != api.OK {
		return e
	}
	s.list = append(s.list, r)
	if e := fill(w); e != api.OK {
		return e
	}
	if e := w.Close(); e != api.OK {
		return e
	}
	return s.open(r)
}

// open reads the first record of a run.
func (s *runs) open(r *run) api.Errno {
	reader, e := s.desk.Read(r.name, api.KindRaw)
	if e != api.OK {
		return e
	}
	r.reader = reader
	some, e := s.next(r)
	if some {
		s.heads.push(r)
	}
	return e
}

// makeRoom sees to it that there may be one run more. Where there may not, all runs are merged whose rank is at most that of the last but one: so a run is merged with others of its rank and with none that is much longer, and it takes ever more runs to bring a record from one rank to the next.
func (s *runs) makeRoom() api.Errno {
	if e := s.settle(); e != api.OK { // a run that is at its end makes room itself
		return e
	}
	if len(s.list) < s.most {
		return api.OK
	}
	rank := s.list[len(s.list)-2].rank
	low := slices.IndexFunc(s.list, func(r *run) bool { return r.rank <= rank })
	group := heap[*run]{below: s.heads.below}
	for _, r := range s.list[low:] {
		group.push(r)
	}
	s.heads.list = nil
	for _, r := range s.list[:low] {
		s.heads.push(r)
	}
	return s.add(rank+1, func(w *tape.Writer) api.Errno { return s.merge(&group, w) })
}

// merge puts the records of a group of runs.
func (s *runs) merge(group *heap[*run], w *tape.Writer) api.Errno {
	for group.size() > 0 {
		if e := w.Put(group.front().head); e != api.OK {
			return e
		}
		if e := s.step(group); e != api.OK {
			return e
		}
	}
	return api.OK
}

// drop deletes all that is on the disk; if the power is off, some may be left.
func (s *runs) drop() {
	for _, r := range s.list {
		s.desk.Disk().Delete(r.name)
	}
	s.list, s.heads.list = nil, nil
}
