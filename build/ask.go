package build

import (
	"slices"

	"strata/api"
	"strata/circuit"
	"strata/formula"
)

// askFormula is what a formula and the levels of its variables are refused with.
func askFormula(vars int, f []api.Fnode, at []int) api.Errno {
	if e := askVars(vars, api.MaxVars); e != api.OK {
		return e
	}
	things, e := formula.Vars(f)
	if e != api.OK {
		return e
	}
	return askAtLeast(things, at, vars)
}

func askCnf(vars int, c api.Cnf, at []int) api.Errno {
	if e := askVars(vars, api.MaxVars); e != api.OK {
		return e
	}
	if !formula.FormedCnf(c) {
		return api.ErrTree
	}
	return askAtLeast(c.Vars, at, vars)
}

func askTable(vars int, table []bool) api.Errno {
	if e := askVars(vars, api.MaxTable); e != api.OK {
		return e
	}
	if len(table) != 1<<vars {
		return api.ErrTable
	}
	return api.OK
}

func askLine(vars int, c api.Circuit, place int, at []int) api.Errno {
	if e := askVars(vars, api.MaxVars); e != api.OK {
		return e
	}
	if !circuit.Formed(c) {
		return api.ErrNet
	}
	if place < 0 || place >= len(c.Gates) {
		return api.ErrArg
	}
	return askJust(len(linesOf(c, api.GaInput, api.GaLatch)), at, vars)
}

func askRelation(vars int, c api.Circuit, now, next []int) api.Errno {
	if e := askVars(vars, api.MaxVars); e != api.OK {
		return e
	}
	if !circuit.Formed(c) {
		return api.ErrNet
	}
	if vars+len(linesOf(c, api.GaInput)) > api.MaxVars {
		return api.ErrMany
	}
	latches := len(linesOf(c, api.GaLatch))
	if e := askJust(latches, now, vars); e != api.OK {
		return e
	}
	if e := askJust(latches, next, vars); e != api.OK {
		return e
	}
	return askLevels(slices.Concat(now, next), vars)
}

// askVars refuses a number of levels that there may not be.
func askVars(vars, most int) api.Errno {
	if vars < 0 || vars > most {
		return api.ErrArg
	}
	return api.OK
}

// askAtLeast refuses a list of levels that does not fit so many things, of which there may be fewer.
func askAtLeast(things int, at []int, vars int) api.Errno {
	if len(at) < things {
		return api.ErrArg
	}
	return askLevels(at, vars)
}

// askJust refuses a list of levels that does not fit just so many things.
func askJust(things int, at []int, vars int) api.Errno {
	if len(at) != things {
		return api.ErrArg
	}
	return askLevels(at, vars)
}

// askLevels refuses levels that there are not, and one that stands twice.
func askLevels(at []int, vars int) api.Errno {
	seen := make([]bool, vars)
	for _, level := range at {
		if level < 0 || level >= vars || seen[level] {
			return api.ErrLevel
		}
		seen[level] = true
	}
	return api.OK
}

// linesOf are the places of a circuit's lines of some kinds, in their order.
func linesOf(c api.Circuit, kinds ...int) []int {
	var lines []int
	for line, g := range c.Gates {
		if slices.Contains(kinds, g.Kind) {
			lines = append(lines, line)
		}
	}
	return lines
}
