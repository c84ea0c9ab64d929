package sorter

import (
	"strata/api"
	"strata/recs"
	"strata/tape"
)

// source gives records that should rise, one by one: a tape's reader, or a piece of a run.
type source interface {
	Next() (api.Rec, bool, api.Errno)
}

// head is a source that is not at its end, and the record that it has given last. The record is one of those that the source holds, so it costs no room.
type head struct {
	rec  api.Rec
	from source
}

// heads is a heap of them by their records: none is below the one in front.
type heads struct {
	order api.Order
	list  []head
}

// merge puts the records of all sources.
func (j *job) merge(from []source, w *tape.Writer) api.Errno {
	h := heads{order: j.order}
	if e := h.start(from); e != api.OK {
		return e
	}
	var last api.Rec // what was put last: it is in the writer still, or in the room that the writer's last block has left
	for len(h.list) > 0 {
		rec := h.list[0].rec
		if !j.once || w.Count() == 0 || rec != last {
			if e := w.Put(rec); e != api.OK {
				return e
			}
			last = rec
		}
		if e := h.step(); e != api.OK {
			return e
		}
	}
	return api.OK
}

func (h *heads) start(from []source) api.Errno {
	for _, s := range from {
		rec, some, e := s.Next()
		if e != api.OK {
			return e
		}
		if some {
			h.list = append(h.list, head{rec, s})
		}
	}
	for i := len(h.list)/2 - 1; i >= 0; i-- {
		h.sink(i)
	}
	return api.OK
}

// step asks the source in front for its next record.
func (h *heads) step() api.Errno {
	front := &h.list[0]
	rec, some, e := front.from.Next()
	switch {
	case e != api.OK:
		return e
	case !some:
		end := len(h.list) - 1
		*front = h.list[end]
		h.list = h.list[:end]
	case recs.Compare(h.order, rec, front.rec) < 0:
		return api.ErrRise
	default:
		front.rec = rec
	}
	h.sink(0)
	return api.OK
}

// sink brings the one at i, which may be above those below it, to its place.
func (h *heads) sink(i int) {
	for {
		least := i
		for child := 2*i + 1; child <= 2*i+2 && child < len(h.list); child++ {
			if recs.Compare(h.order, h.list[child].rec, h.list[least].rec) < 0 {
				least = child
			}
		}
		if least == i {
			return
		}
		h.list[i], h.list[least] = h.list[least], h.list[i]
		i = least
	}
}
