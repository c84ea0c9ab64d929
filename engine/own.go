package engine

import (
	"strata/api"
	"strata/tape"
)

// temporaries is how the names of temporaries begin.
const temporaries = "tmp-"

// Step makes a diagram by a function that is handed the desk and the name of the file that it is to make: one step, done whole or not at all.
func (e *Engine) Step(make func(k *tape.Desk, out string) api.Errno) (int, api.Errno) {
	if make == nil {
		return 0, api.ErrArg
	}
	m := &making{step: step{Engine: e, call: "step"}}
	m.write = func(out string, _ []string) error {
		m.made = []string{out} // it may be there, whatever the function answers
		return e.watch(func() api.Errno { return make(e.desk, out) })
	}
	handle, f := m.answer()
	return handle, f.Code
}

// Look asks by a function that is handed the desk; what it makes for itself is taken away again.
func (e *Engine) Look(ask func(k *tape.Desk) api.Errno) api.Errno {
	if ask == nil {
		return api.ErrArg
	}
	l := &looking{step{Engine: e, call: "look"}, ask}
	return told(l.run(l.do)).Code
}

// looking is a step that asks by a function from outside.
type looking struct {
	step
	ask func(k *tape.Desk) api.Errno
}

func (l *looking) do() error {
	return l.watch(func() api.Errno { return l.ask(l.desk) })
}

// watch calls a function from outside; behind it no temporary is there. What the disk has refused meanwhile counts ahead of what the function answers.
func (e *Engine) watch(call func() api.Errno) error {
	was := e.desk.Disk().Counts()
	answer := call()
	off := e.desk.Sweep(temporaries)
	now := e.desk.Disk().Counts()
	switch {
	case off != api.OK:
		return wrong(off)
	case now.Faults > was.Faults:
		return wrong(api.ErrFault)
	case now.Full > was.Full:
		return wrong(api.ErrFull)
	}
	return wrong(answer)
}
