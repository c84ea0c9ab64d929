package reach

// tree is a property as it was read; each form of the grammar is a type of its own.
type tree interface {
	operands() []tree
}

type constant struct{ value bool }

// named is a set that is told by its name.
type named struct{ place int }

// prefixed is an operand behind a prefix, ! or EX to AG.
type prefixed struct {
	prefix  string
	operand tree
}

// joined are two operands with a sign between.
type joined struct {
	op            int
	first, second tree
}

// path is E[first U second], or the same of A.
type path struct {
	all           bool
	first, second tree
}

func (constant) operands() []tree   { return nil }
func (named) operands() []tree      { return nil }
func (t prefixed) operands() []tree { return []tree{t.operand} }
func (t joined) operands() []tree   { return []tree{t.first, t.second} }
func (t path) operands() []tree     { return []tree{t.first, t.second} }
