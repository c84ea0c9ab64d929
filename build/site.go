package build

import (
	"cmp"
	"slices"

	"strata/api"
	"strata/calc"
	"strata/tape"
	"strata/whole"
)

// site is where a node file is built, of those of its parts, which are temporaries.
type site struct {
	desk  *tape.Desk
	vars  int  // levels of all of them
	deep  bool // whether parts may stand within one another by the thousand
	temps []string
	more  map[string]int // by file: how many beyond one still ask for it
}

// begin asks what each whole operation asks first; wrong is what its arguments alone say.
func begin(k *tape.Desk, vars int, wrong api.Errno, out string) (*site, api.Errno) {
	if e := whole.Ready(k, wrong, nil, []string{out}); e != api.OK {
		return nil, e
	}
	return &site{desk: k, vars: vars, more: map[string]int{}}, api.OK
}

// part is a part of what is built. file makes its node file under the name that it is handed, or tells under which other name it lies already.
type part struct {
	depth int // how many parts stand within one another in it at most
	file  func(to string) (string, api.Errno)
}

// raise makes the file of the whole. Then no temporary is there, nor, if it is refused, what has come of the file.
func (s *site) raise(p part, out string) (e api.Errno) {
	defer func() {
		if e != api.OK {
			whole.Remove(s.desk, out)
		}
		whole.Remove(s.desk, s.temps...)
		e = whole.Outcome(s.desk, e)
	}()
	_, e = p.file(out)
	return e
}

// temp is a name for the file of a part.
func (s *site) temp() string {
	name := s.desk.Temp()
	s.temps = append(s.temps, name)
	return name
}

// hold is the file of a part, which is there until it is left.
func (s *site) hold(p part) (string, api.Errno) { return p.file(s.temp()) }

// leave is told by one who needs these files no longer: those that nobody else asks for are deleted.
func (s *site) leave(files ...string) {
	for _, f := range files {
		if s.more[f] > 0 {
			s.more[f]--
			continue
		}
		whole.Remove(s.desk, f)
	}
}

// single is a part that is made of no others.
func single(do func(to string) api.Errno) part {
	return part{file: func(to string) (string, api.Errno) {
		if e := do(to); e != api.OK {
			return "", e
		}
		return to, api.OK
	}}
}

// over is a part that is made of others by do, which is handed their files.
func (s *site) over(do func(to string, of []string) api.Errno, parts ...part) part {
	turns := make([]int, len(parts))
	for i := range turns {
		turns[i] = i
	}
	slices.SortStableFunc(turns, func(i, j int) int { return deepestFirst(parts[i], parts[j]) })
	return part{1 + deepest(parts), func(to string) (string, api.Errno) {
		files := make([]string, len(parts))
		for _, i := range turns {
			f, e := s.hold(parts[i])
			if e != api.OK {
				return "", e
			}
			files[i] = f
		}
		if e := do(to, files); e != api.OK {
			return "", e
		}
		s.leave(files...)
		return to, api.OK
	}}
}

// deepestFirst is an order of parts. While one is made, the files of those ahead of it wait, and so on within it.
func deepestFirst(a, b part) int { return cmp.Compare(b.depth, a.depth) }

// deepest is the depth of the deepest part.
func deepest(parts []part) int {
	depth := 0
	for _, p := range parts {
		depth = max(depth, p.depth)
	}
	return depth
}

// share is a part that so many others ask for, and that is made once.
func (s *site) share(p part, askers int) part {
	made := ""
	return part{p.depth, func(to string) (string, api.Errno) {
		if made == "" {
			f, e := p.file(to)
			if e != api.OK {
				return "", e
			}
			made = f
			s.more[f] += askers - 1 // it may be that of a part that is shared itself
		}
		return made, api.OK
	}}
}

func (s *site) constant(v bool) part {
	return single(func(to string) api.Errno { return calc.Const(s.desk, s.vars, v, to) })
}

// cube is the conjunction of literals.
func (s *site) cube(lits ...api.Lit) part {
	return single(func(to string) api.Errno { return calc.Cube(s.desk, s.vars, lits, to) })
}

// level is the truth of a level.
func (s *site) level(level int) part { return s.cube(api.Lit{Level: level, Value: true}) }

func (s *site) not(p part) part {
	return s.over(func(to string, of []string) api.Errno { return calc.Not(s.desk, of[0], to) }, p)
}

func (s *site) apply(op int, p, q part) part {
	return s.over(func(to string, of []string) api.Errno { return calc.Apply(s.desk, op, of[0], of[1], to) }, p, q)
}

// choose is then where test is true, else other.
func (s *site) choose(test, then, other part) part {
	return s.over(func(to string, of []string) api.Errno { return calc.Ite(s.desk, of[0], of[1], of[2], to) }, test, then, other)
}

// quantifier is calc.Exists or calc.Forall.
type quantifier func(k *tape.Desk, f string, levels []int, out string) api.Errno

func (s *site) quantify(by quantifier, level int, p part) part {
	return s.over(func(to string, of []string) api.Errno { return by(s.desk, of[0], []int{level}, to) }, p)
}
