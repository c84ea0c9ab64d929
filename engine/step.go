package engine

import (
	"strata/api"
	"strata/catalog"
	"strata/nodes"
	"strata/whole"
)

// step is one call of an engine that needs the power. What it does is a method of it, or of one that embeds it.
type step struct {
	*Engine
	call string
	made []string // files that no table names as long as the step is not done
}

// run does a step, if the power is on. Where it is refused, what it has made is deleted.
func (s *step) run(do func() error) error {
	if !s.isOn() {
		return &refusal{s.call, wrong(api.ErrOff)}
	}
	peak := s.Peak()
	err := do()
	if err != nil {
		whole.Remove(s.desk, s.made...)
	}
	if !s.isOn() { // also where it was refused for something else, and the power has gone off behind that
		s.off, s.peak = true, peak
		err = wrong(api.ErrOff)
	}
	if err != nil {
		return &refusal{s.call, err}
	}
	return nil
}

// askWidth refuses a diagram of which a level has more nodes than there may be.
func (e *Engine) askWidth(file string) error {
	width, no := nodes.Width(e.desk, file)
	if no != api.OK {
		return wrong(no)
	}
	if width > e.ids {
		return wrong(api.ErrIds)
	}
	return nil
}

// enter commits a table behind which there is a way back.
func (e *Engine) enter(t api.Rows) error {
	if !e.hasWayBack(t) {
		return wrong(api.ErrFull)
	}
	return e.commit(t)
}

// commit makes a table the newest one.
func (e *Engine) commit(t api.Rows) error {
	if no := catalog.Commit(e.desk, t, e.gen); no != api.OK {
		return wrong(no)
	}
	e.table = t
	e.gen++
	return nil
}

// hasWayBack tells whether the disk has room for the files of a table, its catalog and another one of that length: so a handle can be freed.
func (e *Engine) hasWayBack(t api.Rows) bool {
	k := e.desk.K()
	records := t.Vars + len(t.Rows) + 1
	blocks := 2 * ((records + k - 1) / k)
	for _, n := range numbersOf(t.Rows) {
		length, _, _ := e.desk.Disk().Length(catalog.FileName(n))
		blocks += length
	}
	return blocks <= e.desk.Disk().Blocks()
}
