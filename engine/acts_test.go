package engine_test

import (
	"fmt"
	"math/big"
	"reflect"
	"slices"

	"strata/api"
	"strata/bench"
	"strata/calc"
	"strata/engine"
	"strata/formula"
	"strata/tape"
)

// answer is all that a call answers.
type answer struct {
	said  string // if it is not refused
	fault api.Fault
}

func said(v any) answer { return answer{said: fmt.Sprint(v)} }

func refused(e api.Errno) answer { return answer{fault: api.Fault{Code: e}} }

// answered is what a call has answered; what is not zero beside a refusal is told too.
func answered(v any, f api.Fault) answer {
	if f == (api.Fault{}) {
		return said(v)
	}
	if x := reflect.ValueOf(v); !x.IsZero() && (x.Kind() != reflect.Slice || x.Len() > 0) {
		return answer{fmt.Sprint("beside a refusal: ", v), f}
	}
	return answer{fault: f}
}

func plain(v any, e api.Errno) answer { return answered(v, api.Fault{Code: e}) }

// act is a call of an engine, and what the model says of it.
type act struct {
	what string
	do   func(e *engine.Engine) answer
	say  func(m *model) answer
}

func constant(v bool) act {
	return act{fmt.Sprint("const ", v),
		func(e *engine.Engine) answer { h, no := e.Const(v); return plain(h, no) },
		func(m *model) answer { return m.make(making{f: func(int) bool { return v }}) }}
}

// level is ErrLevel, if a list names what is no variable, or one twice.
func (m *model) level(vars ...int) api.Fault {
	seen := map[int]bool{}
	for _, v := range vars {
		if v < 0 || v >= m.table.Vars || seen[v] {
			return api.Fault{Code: api.ErrLevel}
		}
		seen[v] = true
	}
	return api.Fault{}
}

func (m *model) bit(x, v int) bool { return bench.Bit(m.table.Vars, x, v) }

func variable(v int) act {
	return act{fmt.Sprint("var ", v),
		func(e *engine.Engine) answer { h, no := e.Var(v); return plain(h, no) },
		func(m *model) answer {
			return m.make(making{wrong: m.level(v), f: func(x int) bool { return m.bit(x, v) }})
		}}
}

func varsOf(lits []api.Lit) []int {
	var list []int
	for _, l := range lits {
		list = append(list, l.Level)
	}
	return list
}

func cube(lits ...api.Lit) act {
	return act{fmt.Sprint("cube ", lits),
		func(e *engine.Engine) answer { h, no := e.Cube(lits); return plain(h, no) },
		func(m *model) answer {
			return m.make(making{wrong: m.level(varsOf(lits)...), f: func(x int) bool {
				return !slices.ContainsFunc(lits, func(l api.Lit) bool { return m.bit(x, l.Level) != l.Value })
			}})
		}}
}

// bits are the truths of an assignment, by variable.
func (m *model) bits(x int) []bool {
	list := make([]bool, m.table.Vars)
	for v := range list {
		list[v] = m.bit(x, v)
	}
	return list
}

func text(s string) act {
	return act{fmt.Sprintf("formula %q", s),
		func(e *engine.Engine) answer { h, f := e.Formula(s); return answered(h, f) },
		func(m *model) answer {
			tree, f := formula.Parse(s)
			if vars, _ := formula.Vars(tree); vars > m.table.Vars {
				f.Code = api.ErrLevel
			}
			return m.make(making{wrong: f, f: func(x int) bool { v, _ := formula.Eval(tree, m.bits(x)); return v }})
		}}
}

func clauses(s string) act {
	return act{fmt.Sprintf("cnf %q", s),
		func(e *engine.Engine) answer { h, f := e.Cnf(s); return answered(h, f) },
		func(m *model) answer {
			c, f := formula.ParseCnf(s)
			if c.Vars > m.table.Vars {
				f.Code = api.ErrLevel
			}
			return m.make(making{wrong: f, f: func(x int) bool {
				from := 0
				for _, end := range c.Ends {
					if !slices.ContainsFunc(c.Lits[from:end], func(l int) bool { return m.bit(x, max(l, -l)-1) == (l > 0) }) {
						return false
					}
					from = end
				}
				return true
			}})
		}}
}

// load is the text of a function over n levels.
func load(n int, table []bool) act {
	return act{fmt.Sprint("load of levels ", n, table),
		func(e *engine.Engine) answer { h, f := e.Load(dumped(bench.Canon(n, table))); return answered(h, f) },
		func(m *model) answer {
			late := func() api.Fault {
				if n != m.table.Vars {
					return api.Fault{Code: api.ErrVars}
				}
				return api.Fault{}
			}
			return m.make(making{late: late, f: func(x int) bool { return ofLevels(m.table.Order, table)[x] }})
		}}
}

// noLoad is a text that is none, and what is told of it.
func noLoad(s string, code api.Errno, line, col int) act {
	return act{fmt.Sprintf("load %.99q", s),
		func(e *engine.Engine) answer { h, f := e.Load(s); return answered(h, f) },
		func(m *model) answer {
			return m.make(making{late: func() api.Fault { return api.Fault{Code: code, At: api.Pos{Line: line, Col: col}} }})
		}}
}

func not(f int) act {
	return act{fmt.Sprint("not ", f),
		func(e *engine.Engine) answer { h, no := e.Not(f); return plain(h, no) },
		func(m *model) answer {
			return m.make(making{handles: []int{f}, f: func(x int) bool { return !m.function(f)[x] }})
		}}
}

func apply(op, f, g int) act {
	return act{fmt.Sprint("apply ", op, f, g),
		func(e *engine.Engine) answer { h, no := e.Apply(op, f, g); return plain(h, no) },
		func(m *model) answer {
			s := making{handles: []int{f, g}, f: func(x int) bool {
				return op>>(2*bench.Side(m.function(f)[x])+bench.Side(m.function(g)[x]))&1 == 1
			}}
			if op < 0 || op > 15 {
				s.wrong.Code = api.ErrOp
			}
			return m.make(s)
		}}
}

func ite(f, g, h int) act {
	return act{fmt.Sprint("ite ", f, g, h),
		func(e *engine.Engine) answer { h, no := e.Ite(f, g, h); return plain(h, no) },
		func(m *model) answer {
			return m.make(making{handles: []int{f, g, h}, f: func(x int) bool {
				if m.function(f)[x] {
					return m.function(g)[x]
				}
				return m.function(h)[x]
			}})
		}}
}

// with is an assignment in which these variables have these truths.
func (m *model) with(x int, lits ...api.Lit) int {
	for _, l := range lits {
		x = bench.With(m.table.Vars, x, l.Level, l.Value)
	}
	return x
}

func restrict(f int, lits ...api.Lit) act {
	return act{fmt.Sprint("restrict ", f, lits),
		func(e *engine.Engine) answer { h, no := e.Restrict(f, lits); return plain(h, no) },
		func(m *model) answer {
			return m.make(making{handles: []int{f}, wrong: m.level(varsOf(lits)...), f: func(x int) bool { return m.function(f)[m.with(x, lits...)] }})
		}}
}

// some tells whether a function has that truth for some truths of these variables.
func (m *model) some(table []bool, x int, vars []int, truth bool) bool {
	if len(vars) == 0 {
		return table[x] == truth
	}
	rest := vars[1:]
	return m.some(table, m.with(x, api.Lit{Level: vars[0]}), rest, truth) || m.some(table, m.with(x, api.Lit{Level: vars[0], Value: true}), rest, truth)
}

func exists(f int, vars ...int) act {
	return act{fmt.Sprint("exists ", f, vars),
		func(e *engine.Engine) answer { h, no := e.Exists(f, vars); return plain(h, no) },
		func(m *model) answer {
			return m.make(making{handles: []int{f}, wrong: m.level(vars...), f: func(x int) bool { return m.some(m.function(f), x, vars, true) }})
		}}
}

func forall(f int, vars ...int) act {
	return act{fmt.Sprint("forall ", f, vars),
		func(e *engine.Engine) answer { h, no := e.Forall(f, vars); return plain(h, no) },
		func(m *model) answer {
			return m.make(making{handles: []int{f}, wrong: m.level(vars...), f: func(x int) bool { return !m.some(m.function(f), x, vars, false) }})
		}}
}

func compose(f, v, g int) act {
	return act{fmt.Sprint("compose ", f, v, g),
		func(e *engine.Engine) answer { h, no := e.Compose(f, v, g); return plain(h, no) },
		func(m *model) answer {
			return m.make(making{handles: []int{f, g}, wrong: m.level(v), f: func(x int) bool {
				return m.function(f)[m.with(x, api.Lit{Level: v, Value: m.function(g)[x]})]
			}})
		}}
}

func rename(f int, to ...int) act {
	return act{fmt.Sprint("rename ", f, to),
		func(e *engine.Engine) answer { h, no := e.Rename(f, to); return plain(h, no) },
		func(m *model) answer {
			s := making{handles: []int{f}}
			if len(to) != m.table.Vars {
				s.wrong.Code = api.ErrArg
			} else if slices.ContainsFunc(to, func(v int) bool { return v < 0 || v >= m.table.Vars }) {
				s.wrong.Code = api.ErrLevel
			}
			s.late = func() api.Fault {
				var goals []int
				for _, v := range m.support(f) {
					goals = append(goals, to[v])
				}
				return m.level(goals...)
			}
			s.f = func(x int) bool {
				y := 0
				for v, w := range to {
					y = m.with(y, api.Lit{Level: v, Value: m.bit(x, w)})
				}
				return m.function(f)[y]
			}
			return m.make(s)
		}}
}

// support are the variables that a handle's function hangs on.
func (m *model) support(f int) []int {
	list := []int{}
	for v := range m.table.Vars {
		if bench.HangsOn(m.table.Vars, m.function(f), v) {
			list = append(list, v)
		}
	}
	return list
}

func copyOf(f int) act {
	return act{fmt.Sprint("copy ", f),
		func(e *engine.Engine) answer { h, no := e.Copy(f); return plain(h, no) },
		func(m *model) answer { return m.copy(f) }}
}

// done is what a call answers that tells nothing.
func done(e api.Errno) answer { return refused(e) }

func free(f int) act {
	return act{fmt.Sprint("free ", f),
		func(e *engine.Engine) answer { return done(e.Free(f)) },
		func(m *model) answer { return m.free(f) }}
}

func swap(level int) act {
	return act{fmt.Sprint("swap ", level),
		func(e *engine.Engine) answer { return done(e.Swap(level)) },
		func(m *model) answer {
			if level < 0 || level > m.table.Vars-2 {
				return refused(api.ErrLevel)
			}
			order := slices.Clone(m.table.Order)
			order[level], order[level+1] = order[level+1], order[level]
			return m.take(order)
		}}
}

func reorder(order ...int) act {
	return act{fmt.Sprint("reorder ", order),
		func(e *engine.Engine) answer { return done(e.Reorder(order)) },
		func(m *model) answer { return m.reorder(order) }}
}

func sift() act {
	return act{"sift",
		func(e *engine.Engine) answer { return done(e.Sift()) },
		func(m *model) answer {
			if len(m.table.Rows) == 0 {
				return refused(api.OK)
			}
			return m.reorder(m.best())
		}}
}

// ask is a call that asks of handles.
func ask(what string, do func(e *engine.Engine) (any, api.Errno), say func(m *model) answer, handles ...int) act {
	return act{fmt.Sprint(what, " ", handles),
		func(e *engine.Engine) answer { v, no := do(e); return plain(v, no) },
		func(m *model) answer {
			if !m.live(handles...) {
				return refused(api.ErrHandle)
			}
			return say(m)
		}}
}

// trues is how many assignments make a handle's function true.
func (m *model) trues(f int) int {
	n := 0
	for _, v := range m.function(f) {
		n += bench.Side(v)
	}
	return n
}

func count(f int) act {
	return ask("count", func(e *engine.Engine) (any, api.Errno) {
		n, no := e.Count(f)
		if n == nil {
			return (*big.Int)(nil), no
		}
		return n, no
	}, func(m *model) answer { return said(m.trues(f)) }, f)
}

func density(f int) act {
	return ask("density", func(e *engine.Engine) (any, api.Errno) { return e.Density(f) },
		func(m *model) answer { return said(float64(m.trues(f)) / float64(int(1)<<m.table.Vars)) }, f)
}

func nodesOf(f int) act {
	return ask("nodes", func(e *engine.Engine) (any, api.Errno) { return e.Nodes(f) },
		func(m *model) answer { return said(len(m.records(m.function(f))) - 1) }, f)
}

func support(f int) act {
	return ask("support", func(e *engine.Engine) (any, api.Errno) { return e.Support(f) },
		func(m *model) answer { return said(m.support(f)) }, f)
}

func first(f int) act {
	return ask("first", func(e *engine.Engine) (any, api.Errno) { return e.First(f) },
		func(m *model) answer {
			for byLevel, v := range inOrder(m.table.Order, m.function(f)) {
				if v {
					return said(m.bits(byVariable(m.table.Order, byLevel)))
				}
			}
			return refused(api.ErrLeaf)
		}, f)
}

func eval(f int, bits ...bool) act {
	return ask(fmt.Sprint("eval ", bits), func(e *engine.Engine) (any, api.Errno) { return e.Eval(f, bits) },
		func(m *model) answer {
			if len(bits) != m.table.Vars {
				return refused(api.ErrArg)
			}
			x := 0
			for v, b := range bits {
				x = m.with(x, api.Lit{Level: v, Value: b})
			}
			return said(m.function(f)[x])
		}, f)
}

func equal(f, g int) act {
	return ask("equal", func(e *engine.Engine) (any, api.Errno) { return e.Equal(f, g) },
		func(m *model) answer { return said(slices.Equal(m.function(f), m.function(g))) }, f, g)
}

func dump(f int) act {
	return ask("dump", func(e *engine.Engine) (any, api.Errno) { return e.Dump(f) },
		func(m *model) answer { return said(dumped(m.records(m.function(f)))) }, f)
}

// own is a step of one's own: not f, or for some truths of level 0; it answers e behind that.
func own(f int, e api.Errno) act {
	return act{fmt.Sprint("step ", f, " ", e),
		func(x *engine.Engine) answer {
			h, no := x.Step(func(k *tape.Desk, out string) api.Errno {
				name, no := x.File(f)
				if no != api.OK {
					return no
				}
				some, nor := k.Temp(), k.Temp()
				if no := calc.Exists(k, name, []int{0}, some); no != api.OK {
					return no
				}
				if no := calc.Not(k, name, nor); no != api.OK {
					return no
				}
				if no := calc.Apply(k, api.OpOr, some, nor, out); no != api.OK {
					return no
				}
				return e
			})
			return plain(h, no)
		},
		func(m *model) answer {
			return m.make(making{late: func() api.Fault {
				if !m.live(f) {
					return api.Fault{Code: api.ErrHandle}
				}
				if m.table.Vars == 0 {
					return api.Fault{Code: api.ErrLevel}
				}
				return api.Fault{Code: e}
			}, f: func(x int) bool {
				return !m.function(f)[x] || m.some(m.function(f), x, m.table.Order[:1], true)
			}})
		}}
}

// look is a look of one's own: whether f and g have some assignment in common; it answers e behind that.
func look(f, g int, e api.Errno) act {
	return act{fmt.Sprint("look ", f, g, " ", e),
		func(x *engine.Engine) answer {
			some := false
			no := x.Look(func(k *tape.Desk) api.Errno {
				a, no := x.File(f)
				b, also := x.File(g)
				if no != api.OK || also != api.OK {
					return api.ErrHandle
				}
				both := k.Temp()
				if no := calc.Apply(k, api.OpAnd, a, b, both); no != api.OK {
					return no
				}
				n, no := k.Size(both, api.KindNodes)
				if no != api.OK {
					return no
				}
				r, _, no := k.Last(both, api.KindNodes)
				some = n > 1 || api.Ptr(r[2]) == api.True
				if no != api.OK {
					return no
				}
				return e
			})
			return plain(some && no == api.OK, no)
		},
		func(m *model) answer {
			if !m.live(f, g) {
				return refused(api.ErrHandle)
			}
			if e != api.OK {
				return refused(e)
			}
			for x, v := range m.function(f) {
				if v && m.function(g)[x] {
					return said(true)
				}
			}
			return said(false)
		}}
}
