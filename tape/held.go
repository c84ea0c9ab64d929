package tape

import "strata/api"

// held is what a writer and a reader share: a file, and one block's records, which are out of the purse until it is closed.
type held struct {
	desk   *Desk
	name   string
	kind   int
	list   []api.Rec // the records in memory
	dead   api.Errno // of what it is dead; OK: it is not
	closed bool
}

// hold takes the records for a tape of that name and kind out of the purse, if the files of in may be read and those of out made.
func (k *Desk) hold(name string, kind int, in, out []string) (held, api.Errno) {
	if kind < api.KindRaw || kind > api.KindTable {
		return held{}, api.ErrArg
	}
	if e := k.Ready(in, out); e != api.OK {
		return held{}, e
	}
	if k.purse.Take(k.k) != api.OK { // of a closed part nothing is free, so that is told alike
		return held{}, api.ErrBudget
	}
	return held{desk: k, name: name, kind: kind}, api.OK
}

// refusal is what every call of a closed or a dead one answers.
func (h *held) refusal() api.Errno {
	if h.closed {
		return api.ErrDone
	}
	return h.dead
}

// tell keeps an error if it is one that an object is dead of, and answers it.
func (h *held) tell(e api.Errno) api.Errno {
	switch e {
	case api.ErrOff, api.ErrFault, api.ErrFull, api.ErrSpoilt, api.ErrForm, api.ErrKind:
		h.dead = e
	}
	return e
}

// release closes it and gives its records back.
func (h *held) release() {
	h.closed = true
	h.list = nil
	h.desk.purse.Give(h.desk.k)
}
