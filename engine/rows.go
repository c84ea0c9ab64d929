package engine

import (
	"slices"

	"strata/api"
)

// entry is a step that changes rows alone: no file is made.
type entry struct {
	step
	of     int // a handle
	handle int // the answer of copy
}

// Copy is another handle with the same diagram.
func (e *Engine) Copy(f int) (int, api.Errno) {
	r := &entry{step: step{Engine: e, call: "copy"}, of: f}
	if err := r.run(r.copy); err != nil {
		return 0, told(err).Code
	}
	return r.handle, api.OK
}

func (r *entry) copy() error {
	place, there := r.find(r.of)
	if !there {
		return wrong(api.ErrHandle)
	}
	t, err := r.grown(r.table.Rows[place].File)
	if err != nil {
		return err
	}
	r.handle = r.table.Next
	return r.enter(t)
}

// Free takes a handle away.
func (e *Engine) Free(f int) api.Errno {
	r := &entry{step: step{Engine: e, call: "free"}, of: f}
	return told(r.run(r.free)).Code
}

func (r *entry) free() error {
	place, there := r.find(r.of)
	if !there {
		return wrong(api.ErrHandle)
	}
	t := r.table
	t.Rows = slices.Delete(slices.Clone(t.Rows), place, place+1)
	return r.commit(t)
}
