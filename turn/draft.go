package turn

import (
	"cmp"

	"strata/api"
	"strata/nodes"
	"strata/tape"
	"strata/whole"
)

// draft is what a file has come to: at first the file itself, which stays; then a temporary.
type draft struct {
	desk *tape.Desk
	own  string
	now  string
}

func newDraft(k *tape.Desk, file string) *draft { return &draft{desk: k, own: file, now: file} }

// redo makes the next draft of this one, which is not there any more then.
func (d *draft) redo(step func(from, to string) api.Errno) api.Errno {
	next := d.desk.Temp()
	if e := step(d.now, next); e != api.OK {
		return e
	}
	d.drop()
	d.now = next
	return api.OK
}

// drop goes back to the file itself.
func (d *draft) drop() {
	if d.now != d.own {
		whole.Remove(d.desk, d.now)
	}
	d.now = d.own
}

// trial is a draft in which one level goes from place to place.
type trial struct {
	*draft
	place int
}

// stand lets the level change with its neighbours until it stands at a place; how many nodes there are then.
func (t *trial) stand(place int) (int, api.Errno) {
	for t.place != place {
		next := t.place + cmp.Compare(place, t.place)
		e := t.redo(func(from, to string) api.Errno { return change(t.desk, from, pair{t.place, next}, to) })
		if e != api.OK {
			return 0, e
		}
		t.place = next
	}
	end, e := nodes.Look(t.desk, t.now)
	return end.Nodes, e
}

// tryPlaces notes what each of these places costs.
func tryPlaces(costs []int, places []int, cost func(place int) (int, api.Errno)) api.Errno {
	for _, place := range places {
		n, e := cost(place)
		if e != api.OK {
			return e
		}
		costs[place] = n
	}
	return api.OK
}
