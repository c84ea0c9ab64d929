package calc

import (
	"cmp"
	"slices"

	"strata/api"
	"strata/passage"
)

// turns are the links that bring the levels that a diagram hangs on, which rise, to their goals. The first one takes all of them to the goals, in the order that they have; then one behind the other jumps to its place among them.
func (j *job) turns(levels, goals []int) []link {
	seats := slices.Sorted(slices.Values(goals))
	links := []link{func(from, to string) {
		j.relabel(from, to, levels, func(place int) int { return seats[place] })
	}}
	for _, m := range moves(goals) {
		links = append(links, func(from, to string) { j.jump(seats, m, from, to) })
	}
	return links
}

// jump moves one of the levels that a diagram hangs on to another place among them: its two halves, which do not hang on it, make room there, and are joined.
func (j *job) jump(seats []int, m move, from, to string) {
	var sides [2]string
	for side, truth := range []bool{false, true} {
		half := j.temp()
		sides[side] = j.temp()
		j.fix(from, []api.Lit{{Level: seats[m.from], Value: truth}}, half)
		j.relabel(half, sides[side], seats, func(place int) int { return seats[m.aside(place)] })
		j.drop(half)
	}
	level := j.temp()
	j.cube([]api.Lit{{Level: seats[m.to], Value: true}}, level)
	j.choose(level, sides[1], sides[0], to)
	j.drop(level, sides[0], sides[1])
}

// relabel makes of a node file the same one with other levels: those that rise, by their places, become others that do.
func (j *job) relabel(from, to string, levels []int, goal func(place int) int) {
	j.then(func() api.Errno {
		return passage.Relabel(j.desk, from, j.vars, func(level int) (int, bool) {
			place, there := slices.BinarySearch(levels, level)
			if !there {
				return 0, false
			}
			return goal(place), true
		}, to)
	})
}

// move is that of one thing in a row to another place: it is taken out, and put in so that it stands there.
type move struct{ from, to int }

// aside is where the thing of another place stands behind a move.
func (m move) aside(place int) int {
	if place > m.from {
		place--
	}
	if place >= m.to {
		place++
	}
	return place
}

// moves bring numbers, no two of which are the same, into their order, one behind the other. There are no fewer that do.
func moves(list []int) []move {
	placed := longestRise(list)
	row := slices.Clone(list)
	var out []move
	for _, x := range list {
		next, stays := slices.BinarySearch(placed, x)
		if stays {
			continue
		}
		m := move{from: slices.Index(row, x)}
		row = slices.Delete(row, m.from, m.from+1)
		if next > 0 {
			m.to = 1 + slices.Index(row, placed[next-1])
		}
		row = slices.Insert(row, m.to, x)
		placed = slices.Insert(placed, next, x)
		out = append(out, m)
	}
	return out
}

// longestRise is one of the longest lists that rise and are left when other numbers are taken out.
func longestRise(list []int) []int {
	var last []int                  // by length: the place of the least number that such a list, of those up to here, can end with
	ahead := make([]int, len(list)) // by place: the place ahead of it in its list
	for place, x := range list {
		n, _ := slices.BinarySearchFunc(last, x, func(at, x int) int { return cmp.Compare(list[at], x) })
		if n > 0 {
			ahead[place] = last[n-1]
		}
		last = slices.Replace(last, n, min(n+1, len(last)), place)
	}
	out := make([]int, len(last))
	for i := len(last) - 1; i >= 0; i-- {
		if i < len(last)-1 {
			last[i] = ahead[last[i+1]]
		}
		out[i] = list[last[i]]
	}
	return out
}
