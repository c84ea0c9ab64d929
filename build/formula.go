package build

import (
	"strata/api"
	"strata/calc"
)

// formula is what a formula says: what each node becomes is made of what its operands have become.
func (s *site) formula(f []api.Fnode, at []int) part {
	var rows []row
	for _, n := range f {
		rest := len(rows) - operands(n.Op)
		rows = append(rows[:rest], s.node(n, at, rows[rest:]...))
	}
	return s.partOf(rows[0])
}

// operands is how many a node has.
func operands(op int) int {
	switch {
	case op <= api.FoVar:
		return 0
	case op <= api.FoForall:
		return 1
	case op <= api.FoIff:
		return 2
	}
	return 3
}

// node is what a node over its operands becomes.
func (s *site) node(n api.Fnode, at []int, of ...row) row {
	switch n.Op {
	case api.FoConst:
		return rowOf(s.constant(n.N == 1))
	case api.FoVar:
		return rowOf(s.level(at[n.N]))
	case api.FoNot:
		return rowOf(s.not(s.partOf(of[0])))
	case api.FoExists:
		return rowOf(s.quantify(calc.Exists, at[n.N], s.partOf(of[0])))
	case api.FoForall:
		return rowOf(s.quantify(calc.Forall, at[n.N], s.partOf(of[0])))
	case api.FoAnd:
		return s.joined(api.OpAnd, of[0], of[1])
	case api.FoOr:
		return s.joined(api.OpOr, of[0], of[1])
	case api.FoXor:
		return s.joined(api.OpXor, of[0], of[1])
	case api.FoImp: // as an or, what follows from many is one row
		return s.joined(api.OpOr, rowOf(s.not(s.partOf(of[0]))), of[1])
	case api.FoIff:
		return s.joined(api.OpIff, of[0], of[1])
	}
	return rowOf(s.choose(s.partOf(of[0]), s.partOf(of[1]), s.partOf(of[2])))
}
