package circuit

import "strata/api"

// search goes from lines to those on which they lean, the deepest first (Tarjan). A line comes out behind all on which it leans; lines from each of which one comes to the others come out together, as one part.
type search struct {
	gates   []api.Gate
	met     []int // by line: as which one it has been met, from 1 on; 0 if it has not
	reached []int // by line: the least such number, of lines that have not come out, to which it is known to lead
	part    []int // by line: the number of the part that it has come out with; 0 if it has not
	way     []stop
	waiting []int // lines that have been met and have not come out, in the order of meeting
	out     []int // lines that have come out, in their order
}

// stop is a line on the way from the start of a search to where it is.
type stop struct {
	line int
	left []int // lines on which it leans that have not been looked at
}

func newSearch(gates []api.Gate) *search {
	return &search{gates: gates, met: make([]int, len(gates)), reached: make([]int, len(gates)), part: make([]int, len(gates))}
}

// searched is a search of all lines.
func searched(gates []api.Gate) *search {
	s := newSearch(gates)
	for line := range gates {
		if s.met[line] == 0 {
			s.from(line)
		}
	}
	return s
}

// from searches from a line that has not been met. It keeps its way in a list: a way may be as long as the circuit.
func (s *search) from(line int) {
	s.meet(line)
	for len(s.way) > 0 {
		here := &s.way[len(s.way)-1]
		if len(here.left) == 0 {
			s.goBack()
			continue
		}
		next := here.left[0]
		here.left = here.left[1:]
		switch {
		case s.met[next] == 0:
			s.meet(next)
		case s.part[next] == 0:
			s.reach(here.line, s.met[next])
		}
	}
}

func (s *search) meet(line int) {
	s.waiting = append(s.waiting, line)
	s.met[line] = len(s.out) + len(s.waiting)
	s.reached[line] = s.met[line]
	s.way = append(s.way, stop{line, leans(s.gates[line])})
}

func (s *search) reach(line, number int) { s.reached[line] = min(s.reached[line], number) }

// goBack leaves the line at the end of the way; if it leads to no earlier one that is waiting, its part is whole.
func (s *search) goBack() {
	last := len(s.way) - 1
	line := s.way[last].line
	s.way = s.way[:last]
	if s.reached[line] == s.met[line] {
		s.comeOut(line)
		return
	}
	s.reach(s.way[last-1].line, s.reached[line])
}

// comeOut lets out the part that was met with a line.
func (s *search) comeOut(first int) {
	for s.part[first] == 0 {
		last := len(s.waiting) - 1
		line := s.waiting[last]
		s.waiting = s.waiting[:last]
		s.part[line] = s.met[first]
		s.out = append(s.out, line)
	}
}

// firstInCircle is the place of the first line that is in a circle, none if none is: such a line leans on one of its own part.
func firstInCircle(gates []api.Gate) int {
	part := searched(gates).part
	var line int
	for line = range gates {
		for _, next := range leans(gates[line]) {
			if part[next] == part[line] {
				goto found
			}
		}
	}
	return none
found:
	return line
}
