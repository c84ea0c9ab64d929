package calc

import (
	"slices"

	"strata/api"
	"strata/nodes"
	"strata/recs"
	"strata/tape"
	"strata/whole"
)

// begin asks what each operation asks first: wrong is what its numbers and lists alone say, levels are those that the operands must have. A job without steps.
func begin(k *tape.Desk, wrong api.Errno, levels []int, out string, in ...string) (*job, api.Errno) {
	ends, e := whole.Begin(k, wrong, in, []string{out})
	if e != api.OK {
		return nil, e
	}
	j := &job{desk: k, out: out}
	for _, end := range ends {
		j.vars = end.Vars
	}
	return j, askBelow(levels, j.vars)
}

// askVars refuses a number of levels that no diagram has.
func askVars(vars int) api.Errno {
	if vars < 0 || vars > api.MaxVars {
		return api.ErrArg
	}
	return api.OK
}

// askNegative refuses levels below 0.
func askNegative(levels []int) api.Errno {
	for _, level := range levels {
		if level < 0 {
			return api.ErrLevel
		}
	}
	return api.OK
}

// askBelow refuses levels that there are not over so many.
func askBelow(levels []int, vars int) api.Errno {
	for _, level := range levels {
		if level >= vars {
			return api.ErrLevel
		}
	}
	return api.OK
}

// askApart refuses levels that stand twice among them, and those below 0.
func askApart(levels []int) api.Errno {
	seen := make(map[int]struct{}, len(levels))
	for _, level := range levels {
		if _, twice := seen[level]; twice {
			return api.ErrLevel
		}
		seen[level] = struct{}{}
	}
	return askNegative(levels)
}

func levelsOf(lits []api.Lit) []int {
	levels := make([]int, 0, len(lits))
	for _, lit := range lits {
		levels = append(levels, lit.Level)
	}
	return levels
}

// hangsOn are those of some levels that a diagram hangs on, the deepest first. All of the file is read.
func hangsOn(k *tape.Desk, f string, levels []int) ([]int, api.Errno) {
	left := slices.Sorted(slices.Values(levels))
	c, e := nodes.Up(k, f)
	if e != api.OK {
		return nil, e
	}
	defer c.Close()
	var met []int
	for {
		node, some, e := c.Next()
		if e != api.OK {
			return nil, e
		}
		if !some {
			return met, api.OK
		}
		level := recs.Level(node.Self)
		place, there := slices.BinarySearch(left, level)
		if there {
			met = append(met, level)
		}
		left = left[:place] // neither this level nor a deeper one is met any more
	}
}

// upTo are all levels of so many.
func upTo(vars int) []int {
	levels := make([]int, vars)
	for level := range levels {
		levels[level] = level
	}
	return levels
}
