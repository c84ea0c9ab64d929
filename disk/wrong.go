package disk

import (
	"errors"

	"strata/api"
)

// What a call finds wrong.
var (
	errArg    = errors.New("a setup that may not be")
	errFault  = errors.New("a fault befalls the call")
	errOff    = errors.New("the power is off")
	errName   = errors.New("no name")
	errNoFile = errors.New("no file of that name")
	errExists = errors.New("a file of that name already")
	errSealed = errors.New("the file is sealed")
	errOpen   = errors.New("the file is not sealed")
	errBlock  = errors.New("no such block")
	errFull   = errors.New("no block is free")
	errState  = errors.New("no state of a disk")
)

// tell is the number of what is wrong; OK if nothing is.
func tell(err error) api.Errno {
	switch {
	case err == nil:
		return api.OK
	case errors.Is(err, errFault):
		return api.ErrFault
	case errors.Is(err, errOff):
		return api.ErrOff
	case errors.Is(err, errName):
		return api.ErrName
	case errors.Is(err, errNoFile):
		return api.ErrNoFile
	case errors.Is(err, errExists):
		return api.ErrExists
	case errors.Is(err, errSealed):
		return api.ErrSealed
	case errors.Is(err, errOpen):
		return api.ErrOpen
	case errors.Is(err, errBlock):
		return api.ErrBlock
	case errors.Is(err, errFull):
		return api.ErrFull
	case errors.Is(err, errState):
		return api.ErrState
	}
	return api.ErrArg
}
