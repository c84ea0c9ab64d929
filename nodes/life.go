package nodes

import "strata/api"

// life is how an object stands: open, dead or closed.
type life struct {
	dead   api.Errno // of what it is dead; OK: it is not
	closed bool
}

// refusal is what every call of a closed or a dead one answers.
func (l *life) refusal() api.Errno {
	if l.closed {
		return api.ErrDone
	}
	return l.dead
}

// tell keeps an error if it is one that an object is dead of, and answers it.
func (l *life) tell(e api.Errno) api.Errno {
	switch e {
	case api.ErrOff, api.ErrFault, api.ErrFull, api.ErrSpoilt, api.ErrForm, api.ErrKind, api.ErrShape:
		l.dead = e
	}
	return e
}
