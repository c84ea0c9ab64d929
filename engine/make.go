package engine

import (
	"strata/api"
	"strata/build"
	"strata/calc"
	"strata/catalog"
	"strata/formula"
	"strata/nodes"
	"strata/portable"
)

// making is a step that makes a diagram.
type making struct {
	step
	handles []int
	wrong   error // what speaks against the arguments, the handles aside
	write   func(out string, in []string) error
	handle  int // the answer
}

// do makes the diagram's file, of those of the handles, and a row for it.
func (m *making) do() error {
	in, err := m.files(m.handles)
	if err != nil {
		return err
	}
	if m.wrong != nil {
		return m.wrong
	}
	t, err := m.grownByFile()
	if err != nil {
		return err
	}
	out := catalog.FileName(m.table.NextFile)
	if err := m.write(out, in); err != nil {
		return err
	}
	m.made = []string{out}
	if err := m.askWidth(out); err != nil {
		return err
	}
	m.handle = m.table.Next
	return m.enter(t)
}

// answer is the handle, if the step was done.
func (m *making) answer() (int, api.Fault) {
	if err := m.run(m.do); err != nil {
		return 0, told(err)
	}
	return m.handle, api.Fault{}
}

// make does a step that makes a diagram of those of handles; no is what speaks against its other arguments.
func (e *Engine) make(call string, no api.Errno, write func(out string, in []string) api.Errno, handles ...int) (int, api.Errno) {
	m := &making{step: step{Engine: e, call: call}, handles: handles, wrong: wrong(no)}
	m.write = func(out string, in []string) error { return wrong(write(out, in)) }
	handle, f := m.answer()
	return handle, f.Code
}

// read does a step that makes a diagram of a text; f is the text's own fault.
func (e *Engine) read(call string, f api.Fault, write func(out string) error) (int, api.Fault) {
	m := &making{step: step{Engine: e, call: call}, wrong: wrongAt(f)}
	m.write = func(out string, _ []string) error { return write(out) }
	return m.answer()
}

// Const is a constant.
func (e *Engine) Const(v bool) (int, api.Errno) {
	return e.make("const", api.OK, func(out string, _ []string) api.Errno {
		return calc.Const(e.desk, e.table.Vars, v, out)
	})
}

// Var is the truth of a variable.
func (e *Engine) Var(v int) (int, api.Errno) {
	return e.make("var", e.askVariables(v), func(out string, _ []string) api.Errno {
		return calc.Var(e.desk, e.table.Vars, e.levels()[v], out)
	})
}

// Cube is the conjunction of literals, of variables.
func (e *Engine) Cube(lits []api.Lit) (int, api.Errno) {
	return e.make("cube", e.askVariables(variablesOf(lits)...), func(out string, _ []string) api.Errno {
		return calc.Cube(e.desk, e.table.Vars, e.byLevel(lits), out)
	})
}

// Formula is what a formula says.
func (e *Engine) Formula(text string) (int, api.Fault) {
	tree, f := formula.Parse(text)
	if f == (api.Fault{}) {
		vars, no := formula.Vars(tree)
		f.Code = e.askMost(vars, no)
	}
	return e.read("formula", f, func(out string) error {
		return wrong(build.Formula(e.desk, e.table.Vars, tree, e.levels(), out))
	})
}

// Cnf is what clauses say.
func (e *Engine) Cnf(text string) (int, api.Fault) {
	c, f := formula.ParseCnf(text)
	if f == (api.Fault{}) {
		f.Code = e.askMost(c.Vars, api.OK)
	}
	return e.read("cnf", f, func(out string) error {
		return wrong(build.Cnf(e.desk, e.table.Vars, c, e.levels(), out))
	})
}

// askMost refuses a text of more variables than there are; no is what it is refused with already.
func (e *Engine) askMost(vars int, no api.Errno) api.Errno {
	if no == api.OK && vars > e.table.Vars {
		return api.ErrLevel
	}
	return no
}

// Load is the diagram that a text tells, level by level.
func (e *Engine) Load(text string) (int, api.Fault) {
	m := &making{step: step{Engine: e, call: "load"}}
	m.write = func(out string, _ []string) error {
		if f := portable.Load(e.desk, text, out); f != (api.Fault{}) {
			return fault(f)
		}
		m.made = []string{out} // it is there, whatever is found wrong with it
		end, no := nodes.Look(e.desk, out)
		if no == api.OK && end.Vars != e.table.Vars {
			no = api.ErrVars
		}
		return wrong(no)
	}
	return m.answer()
}

// Not is the opposite.
func (e *Engine) Not(f int) (int, api.Errno) {
	return e.make("not", api.OK, func(out string, in []string) api.Errno {
		return calc.Not(e.desk, in[0], out)
	}, f)
}

// Apply is two diagrams under an operator.
func (e *Engine) Apply(op, f, g int) (int, api.Errno) {
	no := api.OK
	if op < api.OpFalse || op > api.OpTrue {
		no = api.ErrOp
	}
	return e.make("apply", no, func(out string, in []string) api.Errno {
		return calc.Apply(e.desk, op, in[0], in[1], out)
	}, f, g)
}

// Ite is g where f is true, else h.
func (e *Engine) Ite(f, g, h int) (int, api.Errno) {
	return e.make("ite", api.OK, func(out string, in []string) api.Errno {
		return calc.Ite(e.desk, in[0], in[1], in[2], out)
	}, f, g, h)
}

// Restrict sets variables to truths.
func (e *Engine) Restrict(f int, lits []api.Lit) (int, api.Errno) {
	return e.make("restrict", e.askVariables(variablesOf(lits)...), func(out string, in []string) api.Errno {
		return calc.Restrict(e.desk, in[0], e.byLevel(lits), out)
	}, f)
}

// Exists is true where f is for some truths of these variables.
func (e *Engine) Exists(f int, vars []int) (int, api.Errno) {
	return e.make("exists", e.askVariables(vars...), func(out string, in []string) api.Errno {
		return calc.Exists(e.desk, in[0], e.levelsOf(vars), out)
	}, f)
}

// Forall is true where f is for all truths of these variables.
func (e *Engine) Forall(f int, vars []int) (int, api.Errno) {
	return e.make("forall", e.askVariables(vars...), func(out string, in []string) api.Errno {
		return calc.Forall(e.desk, in[0], e.levelsOf(vars), out)
	}, f)
}

// Compose puts g in the place of a variable.
func (e *Engine) Compose(f int, v int, g int) (int, api.Errno) {
	return e.make("compose", e.askVariables(v), func(out string, in []string) api.Errno {
		return calc.Compose(e.desk, in[0], e.levels()[v], in[1], out)
	}, f, g)
}

// Rename gives each variable of f another one.
func (e *Engine) Rename(f int, to []int) (int, api.Errno) {
	return e.make("rename", e.askRename(to), func(out string, in []string) api.Errno {
		goals := e.levelsOf(to)
		byLevel := make([]int, 0, len(goals))
		for _, v := range e.table.Order {
			byLevel = append(byLevel, goals[v])
		}
		return calc.Rename(e.desk, in[0], byLevel, out)
	}, f)
}

// askRename refuses a list that does not tell a variable for each one.
func (e *Engine) askRename(to []int) api.Errno {
	if len(to) != e.table.Vars {
		return api.ErrArg
	}
	for _, v := range to {
		if !e.isVariable(v) {
			return api.ErrLevel
		}
	}
	return api.OK
}
