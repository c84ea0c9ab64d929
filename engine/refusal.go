package engine

import (
	"errors"
	"strconv"

	"strata/api"
)

// fault is what a call is refused with, as an error.
type fault api.Fault

func (f fault) Error() string {
	text := "error " + strconv.Itoa(int(f.Code))
	if f.At != (api.Pos{}) {
		text += " at " + strconv.Itoa(f.At.Line) + ":" + strconv.Itoa(f.At.Col)
	}
	return text
}

// refusal is a fault on its way up, with the name of the call that is refused.
type refusal struct {
	call string
	err  error
}

func (r *refusal) Error() string { return r.call + ": " + r.err.Error() }

func (r *refusal) Unwrap() error { return r.err }

// wrong is an answer of a lower layer as an error; none, if it is OK.
func wrong(no api.Errno) error { return wrongAt(api.Fault{Code: no}) }

func wrongAt(f api.Fault) error {
	if f == (api.Fault{}) {
		return nil
	}
	return fault(f)
}

// told is what is answered where that has come up.
func told(err error) api.Fault {
	var f fault
	if !errors.As(err, &f) {
		return api.Fault{}
	}
	return api.Fault(f)
}
