package turn

import (
	"cmp"
	"slices"

	"strata/api"
	"strata/calc"
	"strata/nodes"
	"strata/tally"
	"strata/tape"
	"strata/whole"
)

// sift are files of which each place of a level is tried. All of them are in one order, that to which they have been brought.
type sift struct {
	desk  *tape.Desk
	vars  int
	files []*draft
}

// begin asks what Cost and Best ask first; wrong is what the numbers alone say.
func begin(k *tape.Desk, wrong api.Errno, files []string) (*sift, api.Errno) {
	none := api.OK
	if len(files) == 0 {
		none = api.ErrArg
	}
	ends, e := whole.Begin(k, cmp.Or(none, wrong), files, nil)
	if e != api.OK {
		return nil, e
	}
	s := &sift{desk: k, vars: ends[0].Vars}
	if s.vars > api.MaxSift {
		return nil, api.ErrMany
	}
	for _, f := range files {
		s.files = append(s.files, newDraft(k, f))
	}
	return s, api.OK
}

// end deletes the temporaries; what is told then.
func (s *sift) end(list []int, e api.Errno) ([]int, api.Errno) {
	for _, d := range s.files {
		d.drop()
	}
	if e := whole.Outcome(s.desk, e); e != api.OK {
		return nil, e
	}
	return list, api.OK
}

// best sifts the variables, one behind the other.
func (s *sift) best() ([]int, api.Errno) {
	order := upTo(s.vars)
	for variable := range s.vars {
		place := slices.Index(order, variable)
		costs, e := s.costs(place)
		if e != api.OK {
			return nil, e
		}
		goal := bestPlace(costs, place)
		if goal == place {
			continue
		}
		if e := s.move(place, goal); e != api.OK {
			return nil, e
		}
		order = moved(order, place, goal)
	}
	return order, api.OK
}

// move brings a level of all files to a place.
func (s *sift) move(level, place int) api.Errno {
	goals := inverse(moved(upTo(s.vars), level, place))
	for _, d := range s.files {
		if e := d.redo(func(from, to string) api.Errno { return calc.Rename(s.desk, from, goals, to) }); e != api.OK {
			return e
		}
	}
	return api.OK
}

// costs are how many nodes the files have together with a level at each place.
func (s *sift) costs(level int) ([]int, api.Errno) {
	sums := make([]int, s.vars)
	for _, d := range s.files {
		if e := s.addCosts(sums, d.now, level); e != api.OK {
			return nil, e
		}
	}
	return sums, api.OK
}

// addCosts adds what each place of a level costs in one file. Levels that a diagram does not hang on make no nodes, wherever they stand: so a place costs what its seat does, the place among those that it hangs on.
func (s *sift) addCosts(sums []int, file string, level int) api.Errno {
	end, e := nodes.Look(s.desk, file)
	if e != api.OK {
		return e
	}
	levels, e := tally.Support(s.desk, file)
	if e != api.OK {
		return e
	}
	others := slices.DeleteFunc(slices.Clone(levels), func(other int) bool { return other == level })
	seats := slices.Repeat([]int{end.Nodes}, len(others)+1)
	if len(others) < len(levels) {
		if e := s.trySeats(seats, file, levels, slices.Index(levels, level)); e != api.OK {
			return e
		}
	}
	for place := range sums {
		sums[place] += seats[seatOf(place, level, others)]
	}
	return api.OK
}

// trySeats notes what each seat of a level costs but its own: first those below it, then those above it. Only neighbours change with one another, so the levels that the file hangs on are brought together first.
func (s *sift) trySeats(costs []int, file string, levels []int, own int) api.Errno {
	goals := make([]int, s.vars)
	for seat, level := range levels {
		goals[level] = seat
	}
	together := newDraft(s.desk, file)
	defer together.drop()
	if e := together.redo(func(from, to string) api.Errno { return calc.Rename(s.desk, from, goals, to) }); e != api.OK {
		return e
	}
	all := upTo(len(levels))
	above := all[:own]
	slices.Reverse(above)
	for _, way := range [2][]int{all[own+1:], above} {
		t := &trial{newDraft(s.desk, together.now), own}
		e := tryPlaces(costs, way, t.stand)
		t.drop()
		if e != api.OK {
			return e
		}
	}
	return api.OK
}
