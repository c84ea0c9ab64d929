package tape

import (
	"slices"

	"strata/api"
	"strata/recs"
)

// Reader reads a tape, from its begin or from its end.
type Reader struct {
	held        // its list: what is left of the block that was read last, the next record first
	back   bool // from the end to the begin
	blocks int  // that the file had when it was made
	taken  int  // blocks that have been read
}

// Read begins at the first record.
func (k *Desk) Read(name string, kind int) (*Reader, api.Errno) { return k.reader(name, kind, false) }

// Back begins at the last record, and goes to the first.
func (k *Desk) Back(name string, kind int) (*Reader, api.Errno) { return k.reader(name, kind, true) }

func (k *Desk) reader(name string, kind int, back bool) (*Reader, api.Errno) {
	h, e := k.hold(name, kind, []string{name}, nil)
	if e != api.OK {
		return nil, e
	}
	blocks, _, _ := k.disk.Length(name)
	return &Reader{held: h, back: back, blocks: blocks}, api.OK
}

// Next is the next record; false: there is none.
func (r *Reader) Next() (api.Rec, bool, api.Errno) {
	rec, some, e := r.Peek()
	if some {
		r.list = r.list[1:]
	}
	return rec, some, e
}

// Peek is the record that Next will give.
func (r *Reader) Peek() (api.Rec, bool, api.Errno) {
	if e := r.refusal(); e != api.OK {
		return api.Rec{}, false, e
	}
	if len(r.list) == 0 && r.taken < r.blocks {
		if e := r.load(); e != api.OK {
			return api.Rec{}, false, r.tell(e)
		}
	}
	if len(r.list) == 0 {
		return api.Rec{}, false, api.OK
	}
	return r.list[0], true, api.OK
}

// load takes the records of the next block into memory.
func (r *Reader) load() api.Errno {
	i := r.taken
	if r.back {
		i = r.blocks - 1 - r.taken
	}
	block, e := r.desk.disk.Read(r.name, i)
	if e != api.OK {
		return e
	}
	list, e := recs.Decode(r.kind, i, block)
	if e != api.OK {
		return e
	}
	if len(list) < r.desk.k && i < r.blocks-1 {
		return api.ErrForm
	}
	if r.back {
		slices.Reverse(list)
	}
	r.list = list
	r.taken++
	return api.OK
}

// Close ends the reading.
func (r *Reader) Close() api.Errno {
	if r.closed {
		return api.ErrDone
	}
	r.release()
	return api.OK
}
