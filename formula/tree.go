package formula

import "strata/api"

// tree is a formula as it hangs together; each kind of node is a type of its own.
type tree interface {
	node() api.Fnode // the root, as it stands in a list
}

type constant struct{ value int }

type variable struct{ number int }

type opposite struct{ operand tree }

// quantified is an operand with a quantifier of one variable in front.
type quantified struct {
	op, number int
	operand    tree
}

// joined are two operands with an operator between.
type joined struct {
	op            int
	first, second tree
}

type choice struct{ test, then, other tree }

func (t constant) node() api.Fnode   { return api.Fnode{Op: api.FoConst, N: t.value} }
func (t variable) node() api.Fnode   { return api.Fnode{Op: api.FoVar, N: t.number} }
func (t opposite) node() api.Fnode   { return api.Fnode{Op: api.FoNot} }
func (t quantified) node() api.Fnode { return api.Fnode{Op: t.op, N: t.number} }
func (t joined) node() api.Fnode     { return api.Fnode{Op: t.op} }
func (t choice) node() api.Fnode     { return api.Fnode{Op: api.FoIte} }

// list puts a tree behind a list of nodes, each node behind its operands.
func list(f []api.Fnode, t tree) []api.Fnode {
	switch t := t.(type) {
	case opposite:
		f = list(f, t.operand)
	case quantified:
		f = list(f, t.operand)
	case joined:
		f = list(list(f, t.first), t.second)
	case choice:
		f = list(list(list(f, t.test), t.then), t.other)
	}
	return append(f, t.node())
}

// grow makes the tree of a list, if it is formed.
func grow(f []api.Fnode) (tree, bool) {
	if len(f) > api.MaxTree {
		return nil, false
	}
	var grown []tree
	for _, n := range f {
		many, right := operands(n)
		rest := len(grown) - many
		if !right || rest < 0 {
			return nil, false
		}
		grown = append(grown[:rest], plant(n, grown[rest:]))
	}
	if len(grown) != 1 || nest(grown[0], spot{}) > api.MaxDepth {
		return nil, false
	}
	return grown[0], true
}

// operands is how many a node has; false if its fields do not fit one another.
func operands(n api.Fnode) (int, bool) {
	switch n.Op {
	case api.FoConst:
		return 0, n.N == 0 || n.N == 1
	case api.FoVar:
		return 0, isVariable(n.N)
	case api.FoNot:
		return 1, n.N == 0
	case api.FoExists, api.FoForall:
		return 1, isVariable(n.N)
	case api.FoAnd, api.FoOr, api.FoXor, api.FoImp, api.FoIff:
		return 2, n.N == 0
	case api.FoIte:
		return 3, n.N == 0
	}
	return 0, false
}

func isVariable(n int) bool { return 0 <= n && n < api.MaxVars }

func namesVariable(op int) bool {
	return op == api.FoVar || op == api.FoExists || op == api.FoForall
}

// plant makes the tree of a node over its operands.
func plant(n api.Fnode, under []tree) tree {
	switch n.Op {
	case api.FoConst:
		return constant{n.N}
	case api.FoVar:
		return variable{n.N}
	case api.FoNot:
		return opposite{under[0]}
	case api.FoExists, api.FoForall:
		return quantified{n.Op, n.N, under[0]}
	case api.FoIte:
		return choice{under[0], under[1], under[2]}
	}
	return joined{n.Op, under[0], under[1]}
}
