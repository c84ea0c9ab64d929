package formula

import "strata/api"

// spot is where an operand stands in a text, as far as it tells whether the operand is in brackets there.
type spot struct {
	least    int  // operators that bind less tightly are
	followed bool // by something that a quantifier would swallow: quantifiers are
}

// tightest is how tightly what is no operator of two operands binds.
const tightest = 6

// binding is how tightly an operator of two operands binds.
func binding(op int) int {
	switch op {
	case api.FoAnd:
		return 5
	case api.FoXor:
		return 4
	case api.FoOr:
		return 3
	case api.FoImp:
		return 2
	}
	return 1
}

// sides are the spots of an operator's operands. The operand on the side to which it does not lean must bind more tightly than the operator itself.
func sides(op int, followed bool) (spot, spot) {
	own := binding(op)
	if op == api.FoImp { // the one that leans to the right
		return spot{own + 1, true}, spot{own, followed}
	}
	return spot{own, true}, spot{own + 1, followed}
}

// brackets tells whether a tree stands in brackets at a spot.
func (s spot) brackets(t tree) bool {
	switch t := t.(type) {
	case joined:
		return binding(t.op) < s.least
	case quantified:
		return s.followed
	}
	return false
}

// nest is how many brackets and prefixes are open at most at one place of the text that a tree has at a spot.
func nest(t tree, s spot) int {
	if s.brackets(t) {
		return 1 + nestBare(t, false)
	}
	return nestBare(t, s.followed)
}

// nestBare is the nest of a text without the brackets around it.
func nestBare(t tree, followed bool) int {
	switch t := t.(type) {
	case opposite:
		return 1 + nest(t.operand, spot{tightest, followed})
	case quantified:
		return 1 + nest(t.operand, spot{})
	case joined:
		first, second := sides(t.op, followed)
		return max(nest(t.first, first), nest(t.second, second))
	case choice:
		return 1 + max(nest(t.test, spot{}), nest(t.then, spot{}), nest(t.other, spot{}))
	}
	return 0
}
