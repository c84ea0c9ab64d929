package formula

import "strata/api"

// reader reads a formula by its grammar, a method a rule. Behind a fault it looks at no token any more, and what its methods answer is nothing.
type reader struct {
	scanner
	token token // the one that is looked at
	open  int   // prefixes and brackets whose end has not been read
	nodes int   // that the tokens ahead of it make
	fault api.Fault
}

// read makes the tree of a text.
func read(text string) (tree, api.Fault) {
	r := reader{scanner: scanner{text: text}}
	r.advance()
	t := r.formula()
	r.pass(end)
	if r.fault.Code != api.OK {
		return nil, r.fault
	}
	return t, api.Fault{}
}

// advance looks at the next token.
func (r *reader) advance() {
	if r.fault.Code == api.OK {
		r.token = r.next()
	}
}

// refuse tells the fault of the token that is looked at, if it is the first one; of what is no token just that.
func (r *reader) refuse(code api.Errno) {
	if r.fault.Code != api.OK {
		return
	}
	if r.token.kind == none {
		code = r.token.code
	}
	r.fault = api.Fault{Code: code, At: place(r.text, r.token.at)}
	r.token = token{kind: none}
}

// pass goes over a token that must be of a kind.
func (r *reader) pass(kind int) {
	if r.token.kind != kind {
		r.refuse(api.ErrToken)
	}
	r.advance()
}

// passNode goes over a token that makes a node.
func (r *reader) passNode() {
	r.nodes++
	if r.nodes > api.MaxTree {
		r.refuse(api.ErrMany)
	}
	r.advance()
}

// enter opens what the token that is looked at opens.
func (r *reader) enter() {
	r.open++
	if r.open > api.MaxDepth {
		r.refuse(api.ErrDeep)
	}
}

func (r *reader) leave() { r.open-- }

func (r *reader) formula() tree { return r.leftward(api.FoIff, r.imp) }

func (r *reader) or() tree { return r.leftward(api.FoOr, r.xor) }

func (r *reader) xor() tree { return r.leftward(api.FoXor, r.and) }

func (r *reader) and() tree { return r.leftward(api.FoAnd, r.unary) }

// leftward reads operands with an operator between them that leans to the left.
func (r *reader) leftward(op int, operand func() tree) tree {
	t := operand()
	for r.token.kind == op {
		r.passNode()
		t = joined{op, t, operand()}
	}
	return t
}

// imp reads the operator that leans to the right: what is joined first is what was read last.
func (r *reader) imp() tree {
	parts := []tree{r.or()}
	for r.token.kind == api.FoImp {
		r.passNode()
		parts = append(parts, r.or())
	}
	last := len(parts) - 1
	t := parts[last]
	for last--; last >= 0; last-- {
		t = joined{api.FoImp, parts[last], t}
	}
	return t
}

func (r *reader) unary() tree {
	switch r.token.kind {
	case api.FoNot:
		r.enter()
		r.passNode()
		t := opposite{r.unary()}
		r.leave()
		return t
	case api.FoExists, api.FoForall:
		op := r.token.kind
		r.advance()
		return r.quantified(op)
	}
	return r.primary()
}

// quantified reads a quantifier from one of its variables on.
func (r *reader) quantified(op int) tree {
	if r.token.kind != api.FoVar {
		r.refuse(api.ErrToken)
		return nil
	}
	t := quantified{op: op, number: r.token.n}
	r.enter()
	r.passNode()
	if r.token.kind == comma {
		r.advance()
		t.operand = r.quantified(op)
	} else {
		r.pass(colon)
		t.operand = r.formula()
	}
	r.leave()
	return t
}

func (r *reader) primary() tree {
	n := r.token.n
	switch r.token.kind {
	case api.FoConst:
		r.passNode()
		return constant{n}
	case api.FoVar:
		r.passNode()
		return variable{n}
	case api.FoIte:
		return r.choice()
	case opening:
		return r.bracketed()
	}
	r.refuse(api.ErrToken)
	return nil
}

func (r *reader) bracketed() tree {
	r.enter()
	r.pass(opening)
	t := r.formula()
	r.leave()
	r.pass(closing)
	return t
}

func (r *reader) choice() tree {
	var t choice
	r.enter()
	r.passNode()
	r.pass(opening)
	t.test = r.formula()
	r.pass(comma)
	t.then = r.formula()
	r.pass(comma)
	t.other = r.formula()
	r.leave()
	r.pass(closing)
	return t
}
