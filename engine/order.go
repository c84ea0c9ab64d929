package engine

import (
	"slices"

	"strata/api"
	"strata/turn"
)

// ordering is a step that takes another order of the variables.
type ordering struct {
	step
	level int   // that is swapped with the next one
	order []int // that is asked for
}

// Swap changes the variables of a level and of the next one with one another.
func (e *Engine) Swap(level int) api.Errno {
	o := &ordering{step: step{Engine: e, call: "swap"}, level: level}
	return told(o.run(o.swap)).Code
}

// Reorder puts each variable at the level at which it stands in the list.
func (e *Engine) Reorder(order []int) api.Errno {
	o := &ordering{step: step{Engine: e, call: "reorder"}, order: order}
	return told(o.run(o.reorder)).Code
}

// Sift takes the order that sifting comes to.
func (e *Engine) Sift() api.Errno {
	o := &ordering{step: step{Engine: e, call: "sift"}}
	return told(o.run(o.sift)).Code
}

func (o *ordering) swap() error {
	l := o.level
	if l < 0 || l >= o.table.Vars-1 {
		return wrong(api.ErrLevel)
	}
	order := slices.Clone(o.table.Order)
	order[l], order[l+1] = order[l+1], order[l]
	return o.take(order)
}

func (o *ordering) reorder() error {
	if len(o.order) != o.table.Vars || o.askVariables(o.order...) != api.OK {
		return wrong(api.ErrPerm)
	}
	return o.takeOther(o.order)
}

func (o *ordering) sift() error {
	files := namesOf(numbersOf(o.table.Rows))
	if len(files) == 0 {
		return nil
	}
	from, no := turn.Best(o.desk, files)
	if no != api.OK {
		return wrong(no)
	}
	if len(from) != o.table.Vars { // files that were made elsewhere may be over other numbers of levels
		return wrong(api.ErrVars)
	}
	order := make([]int, 0, len(from))
	for _, level := range from {
		order = append(order, o.table.Order[level])
	}
	return o.takeOther(order)
}

// takeOther takes an order, if it is not the one that is there.
func (o *ordering) takeOther(order []int) error {
	if slices.Equal(order, o.table.Order) {
		return nil
	}
	return o.take(order)
}

// take brings all diagrams into an order. The rows have the new files from the moment on at which the table has the order.
func (o *ordering) take(order []int) error {
	t := o.table
	numbers := numbersOf(t.Rows)
	many := uint64(len(numbers))
	if many > lastFile-t.NextFile {
		return wrong(api.ErrWorn)
	}
	fresh := make([]uint64, 0, len(numbers))
	for n := range many {
		fresh = append(fresh, t.NextFile+n)
	}
	if no := turn.Reorder(o.desk, namesOf(numbers), o.levelsOf(order), namesOf(fresh)); no != api.OK {
		return wrong(no)
	}
	o.made = namesOf(fresh)
	for _, file := range o.made {
		if err := o.askWidth(file); err != nil {
			return err
		}
	}
	t.Order = slices.Clone(order)
	t.Rows = moved(t.Rows, numbers, fresh)
	t.NextFile += many
	return o.enter(t)
}

// moved are rows in which each of these files is another one.
func moved(rows []api.Row, from, to []uint64) []api.Row {
	list := slices.Clone(rows)
	for i := range list {
		place, _ := slices.BinarySearch(from, list[i].File)
		list[i].File = to[place]
	}
	return list
}
