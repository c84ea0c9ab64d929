package formula

import "strata/api"

// nested is how many quantifiers of a tree stand within one another at most.
func nested(t tree) int {
	switch t := t.(type) {
	case opposite:
		return nested(t.operand)
	case quantified:
		return 1 + nested(t.operand)
	case joined:
		return max(nested(t.first), nested(t.second))
	case choice:
		return max(nested(t.test), nested(t.then), nested(t.other))
	}
	return 0
}

// assignment is the truth of each variable that a formula names.
type assignment []bool

// of is what a tree says.
func (x assignment) of(t tree) bool {
	switch t := t.(type) {
	case constant:
		return t.value == 1
	case variable:
		return x[t.number]
	case opposite:
		return !x.of(t.operand)
	case quantified:
		return x.tried(t)
	case joined:
		return x.joined(t)
	case choice:
		if x.of(t.test) {
			return x.of(t.then)
		}
		return x.of(t.other)
	}
	return false
}

// tried is what a quantifier says: both truths of its variable are tried, and the variable is as it was behind that.
func (x assignment) tried(t quantified) bool {
	was := x[t.number]
	x[t.number] = false
	low := x.of(t.operand)
	x[t.number] = true
	high := x.of(t.operand)
	x[t.number] = was
	if t.op == api.FoExists {
		return low || high
	}
	return low && high
}

func (x assignment) joined(t joined) bool {
	first, second := x.of(t.first), x.of(t.second)
	switch t.op {
	case api.FoAnd:
		return first && second
	case api.FoOr:
		return first || second
	case api.FoXor:
		return first != second
	case api.FoImp:
		return !first || second
	}
	return first == second
}
