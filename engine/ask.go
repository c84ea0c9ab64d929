package engine

import (
	"math/big"
	"slices"

	"strata/api"
	"strata/nodes"
	"strata/portable"
	"strata/tally"
)

// asking is a step that asks something of diagrams, and changes nothing.
type asking[A any] struct {
	step
	handles []int
	of      func(files []string) (A, api.Errno)
	answer  A
}

func (a *asking[A]) do() error {
	files, err := a.files(a.handles)
	if err != nil {
		return err
	}
	answer, no := a.of(files)
	a.answer = answer
	return wrong(no)
}

// ask asks something of the diagrams of handles.
func ask[A any](e *Engine, call string, of func(files []string) (A, api.Errno), handles ...int) (A, api.Errno) {
	a := &asking[A]{step: step{Engine: e, call: call}, handles: handles, of: of}
	if err := a.run(a.do); err != nil {
		var none A
		return none, told(err).Code
	}
	return a.answer, api.OK
}

// Count is how many truths for all variables make it true.
func (e *Engine) Count(f int) (*big.Int, api.Errno) {
	return ask(e, "count", func(files []string) (*big.Int, api.Errno) { return tally.Count(e.desk, files[0]) }, f)
}

// Density is the part of these.
func (e *Engine) Density(f int) (float64, api.Errno) {
	return ask(e, "density", func(files []string) (float64, api.Errno) { return tally.Density(e.desk, files[0]) }, f)
}

// Nodes is how many nodes the diagram has.
func (e *Engine) Nodes(f int) (int, api.Errno) {
	return ask(e, "nodes", func(files []string) (int, api.Errno) {
		end, no := nodes.Look(e.desk, files[0])
		return end.Nodes, no
	}, f)
}

// Support are the variables that it hangs on, rising.
func (e *Engine) Support(f int) ([]int, api.Errno) {
	return ask(e, "support", func(files []string) ([]int, api.Errno) {
		list, no := tally.Support(e.desk, files[0])
		for i, level := range list {
			if level >= e.table.Vars { // a file that was made elsewhere
				return nil, api.ErrVars
			}
			list[i] = e.table.Order[level]
		}
		slices.Sort(list)
		return list, no
	}, f)
}

// First is, by variable, the assignment that makes it true and is the least by level.
func (e *Engine) First(f int) ([]bool, api.Errno) {
	return ask(e, "first", func(files []string) ([]bool, api.Errno) {
		byLevel, no := tally.First(e.desk, files[0])
		if no != api.OK {
			return nil, no
		}
		if len(byLevel) != e.table.Vars { // a file that was made elsewhere
			return nil, api.ErrVars
		}
		bits := make([]bool, len(byLevel))
		for level, v := range e.table.Order {
			bits[v] = byLevel[level]
		}
		return bits, api.OK
	}, f)
}

// Eval is what it is at truths for all variables.
func (e *Engine) Eval(f int, bits []bool) (bool, api.Errno) {
	return ask(e, "eval", func(files []string) (bool, api.Errno) {
		if len(bits) != e.table.Vars {
			return false, api.ErrArg
		}
		byLevel := make([]bool, 0, len(bits))
		for _, v := range e.table.Order {
			byLevel = append(byLevel, bits[v])
		}
		return nodes.Eval(e.desk, files[0], byLevel)
	}, f)
}

// Equal tells whether two handles have the same function.
func (e *Engine) Equal(f, g int) (bool, api.Errno) {
	return ask(e, "equal", func(files []string) (bool, api.Errno) {
		return nodes.Equal(e.desk, files[0], files[1])
	}, f, g)
}

// Dump is the text of the diagram; it tells of levels.
func (e *Engine) Dump(f int) (string, api.Errno) {
	return ask(e, "dump", func(files []string) (string, api.Errno) { return portable.Dump(e.desk, files[0]) }, f)
}
