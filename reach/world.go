package reach

import (
	"strata/api"
	"strata/calc"
	"strata/engine"
	"strata/nodes"
	"strata/tally"
	"strata/tape"
	"strata/whole"
)

// world is the states and the steps between them, as an engine has them. Behind a refusal nothing is done in it any more, and what its methods answer is nothing.
type world struct {
	engine *engine.Engine
	steps  string   // the file of the steps
	sets   []string // those of the sets that are named
	order  []int    // by level: its variable
	now    []int    // by bit: the level of its variable in a state
	next   []int    // by bit: that in the state that a step leads to
	other  []int    // by level: that of the same bit in the other state
	desk   *tape.Desk
	no     api.Errno // the first refusal
}

// begin asks what each call asks ahead of its step.
func begin(e *engine.Engine, steps int, sets ...int) (*world, api.Errno) {
	if e == nil {
		return nil, api.ErrArg
	}
	w := &world{engine: e, order: e.Order()}
	var no api.Errno
	if w.steps, no = e.File(steps); no != api.OK {
		return nil, no
	}
	for _, set := range sets {
		file, no := e.File(set)
		if no != api.OK {
			return nil, no
		}
		w.sets = append(w.sets, file)
	}
	if len(w.order)%2 != 0 {
		return nil, api.ErrOdd
	}
	w.place()
	return w, api.OK
}

// place finds the levels of the bits.
func (w *world) place() {
	bits := len(w.order) / 2
	w.now, w.next, w.other = make([]int, bits), make([]int, bits), make([]int, 2*bits)
	for level, v := range w.order {
		if v%2 == 0 {
			w.now[v/2] = level
		} else {
			w.next[v/2] = level
		}
	}
	for bit, level := range w.now {
		w.other[level], w.other[w.next[bit]] = w.next[bit], level
	}
}

// make is one step of the engine, in which do makes the file of a set.
func (w *world) make(do func(out string)) (int, api.Errno) {
	return w.engine.Step(func(k *tape.Desk, out string) api.Errno {
		return w.work(k, func() { do(out) })
	})
}

// look is one look of the engine, in which do asks.
func (w *world) look(do func()) api.Errno {
	return w.engine.Look(func(k *tape.Desk) api.Errno { return w.work(k, do) })
}

// work asks what is asked of the sets, and does the call's own work at the engine's desk.
func (w *world) work(k *tape.Desk, do func()) api.Errno {
	w.desk = k
	asked := map[string]int{}
	for _, set := range w.sets {
		if asked[set]++; asked[set] == 1 {
			w.askSet(set)
		}
	}
	do()
	return w.no
}

// askSet refuses a set that asks for the state that a step leads to, and a file that was made elsewhere, over other levels than the engine has.
func (w *world) askSet(file string) {
	if w.end(file).Vars != len(w.order) {
		w.refuse(api.ErrVars)
	}
	w.do(func() api.Errno {
		levels, no := tally.Support(w.desk, file)
		for _, level := range levels {
			if w.order[level]%2 != 0 {
				return api.ErrOdd
			}
		}
		return no
	})
}

// refuse tells a refusal, if it is the first one.
func (w *world) refuse(no api.Errno) {
	w.do(func() api.Errno { return no })
}

// do makes a call, unless one was refused ahead of it.
func (w *world) do(call func() api.Errno) {
	if w.no == api.OK {
		w.no = call()
	}
}

// end is what ends a file.
func (w *world) end(file string) api.Info {
	var end api.Info
	w.do(func() (no api.Errno) {
		end, no = nodes.Look(w.desk, file)
		return no
	})
	return end
}

// some tells whether a set has a state.
func (w *world) some(set string) bool {
	end := w.end(set)
	return w.no == api.OK && end.Root != api.False
}

// made is a temporary that a call makes.
func (w *world) made(call func(to string) api.Errno) string {
	to := w.desk.Temp()
	w.do(func() api.Errno { return call(to) })
	return to
}

// drop deletes temporaries that nothing asks for any more: the rest of the call may need their room.
func (w *world) drop(files ...string) { whole.Remove(w.desk, files...) }

// apply makes the file of two others under an operator.
func (w *world) apply(op int, f, g, to string) {
	w.do(func() api.Errno { return calc.Apply(w.desk, op, f, g, to) })
}

// applied is a temporary that is so made.
func (w *world) applied(op int, f, g string) string {
	return w.made(func(to string) api.Errno { return calc.Apply(w.desk, op, f, g, to) })
}

// turn makes of a set of states the same of those that a step leads to, or the other way round.
func (w *world) turn(f, to string) {
	w.do(func() api.Errno { return calc.Rename(w.desk, f, w.other, to) })
}

// post makes the set of states that a step leads to from a set.
func (w *world) post(set, to string) {
	both := w.applied(api.OpAnd, w.steps, set)
	led := w.made(func(to string) api.Errno { return calc.Exists(w.desk, both, w.now, to) })
	w.drop(both)
	w.turn(led, to)
	w.drop(led)
}

// pre makes the set of states from which a step leads into a set.
func (w *world) pre(set, to string) {
	goal := w.desk.Temp()
	w.turn(set, goal)
	both := w.applied(api.OpAnd, w.steps, goal)
	w.drop(goal)
	w.do(func() api.Errno { return calc.Exists(w.desk, both, w.next, to) })
	w.drop(both)
}
