// Package whole is what whole operations have in common: what they ask first, and how they end. See ../shared/DOC.md, G7.
package whole

import (
	"strata/api"
	"strata/nodes"
	"strata/tape"
)

// Ready asks what a whole operation that reads and makes these files asks ahead of their ends; wrong is what its numbers and lists alone say.
func Ready(k *tape.Desk, wrong api.Errno, in, out []string) api.Errno {
	if k == nil {
		return api.ErrArg
	}
	if !k.Disk().On() {
		return api.ErrOff
	}
	if wrong != api.OK {
		return wrong
	}
	if e := k.Ready(in, out); e != api.OK {
		return e
	}
	if k.Purse().Free() < api.LeastK*k.K() {
		return api.ErrBudget
	}
	return api.OK
}

// Begin asks that, and looks at what ends the node files that are read, which must be over the same number of levels.
func Begin(k *tape.Desk, wrong api.Errno, in, out []string) ([]api.Info, api.Errno) {
	if e := Ready(k, wrong, in, out); e != api.OK {
		return nil, e
	}
	ends := make([]api.Info, 0, len(in))
	for _, name := range in {
		end, e := nodes.Look(k, name)
		if e != api.OK {
			return nil, e
		}
		ends = append(ends, end)
	}
	for _, end := range ends {
		if end.Vars != ends[0].Vars {
			return nil, api.ErrVars
		}
	}
	return ends, api.OK
}

// Remove deletes those of these files that are there.
func Remove(k *tape.Desk, names ...string) {
	for _, name := range names {
		k.Disk().Delete(name)
	}
}

// Outcome is what is told of an operation that came to e and has cleaned up: power that went off meanwhile is told in its place.
func Outcome(k *tape.Desk, e api.Errno) api.Errno {
	if !k.Disk().On() {
		return api.ErrOff
	}
	return e
}
