package tape

import (
	"strata/api"
	"strata/recs"
)

// Writer writes a tape.
type Writer struct {
	held
	blocks int // that it has appended
	count  int // records that were put
}

// Write begins a tape.
func (k *Desk) Write(name string, kind int) (*Writer, api.Errno) {
	h, e := k.hold(name, kind, nil, []string{name})
	if e != api.OK {
		return nil, e
	}
	if e := k.disk.Create(name); e != api.OK {
		h.release()
		return nil, e
	}
	h.list = make([]api.Rec, 0, k.k)
	return &Writer{held: h}, api.OK
}

// Put puts a record behind the last one.
func (w *Writer) Put(r api.Rec) api.Errno {
	if e := w.refusal(); e != api.OK {
		return e
	}
	kept := len(w.list)
	w.list = append(w.list, r)
	if len(w.list) == w.desk.k {
		if e := w.flush(); e != api.OK {
			w.list = w.list[:kept] // if it lives on, it is as it was
			return w.tell(e)
		}
	}
	w.count++
	return api.OK
}

// flush appends a block with the records in memory.
func (w *Writer) flush() api.Errno {
	block, e := recs.Encode(w.kind, w.blocks, w.list, w.desk.disk.Block())
	if e == api.OK {
		e = w.desk.disk.Append(w.name, block)
	}
	if e != api.OK {
		return e
	}
	w.blocks++
	w.list = w.list[:0]
	return api.OK
}

// Count is how many records have been put.
func (w *Writer) Count() int { return w.count }

// Close ends the tape and seals it.
func (w *Writer) Close() api.Errno {
	if w.closed {
		return api.ErrDone
	}
	defer w.release()
	if w.dead != api.OK {
		return w.dead
	}
	if len(w.list) > 0 {
		if e := w.flush(); e != api.OK {
			return e
		}
	}
	return w.desk.disk.Seal(w.name)
}

// Drop gives the tape up.
func (w *Writer) Drop() api.Errno {
	if w.closed {
		return api.ErrDone
	}
	w.release()
	return w.desk.disk.Delete(w.name)
}
