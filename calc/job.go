package calc

import (
	"cmp"
	"slices"

	"strata/api"
	"strata/nodes"
	"strata/passage"
	"strata/sweep"
	"strata/tape"
	"strata/whole"
)

// job is an operation: the steps that make its file, and the temporaries that are there for them alone.
type job struct {
	desk  *tape.Desk
	out   string
	vars  int
	steps []func() api.Errno
	temps []string
}

// run does the steps, up to the first that is refused; then neither the temporaries are there nor, if one was, what has come of the file.
func (j *job) run() (e api.Errno) {
	defer func() {
		if e != api.OK {
			whole.Remove(j.desk, j.out)
		}
		whole.Remove(j.desk, j.temps...)
		e = whole.Outcome(j.desk, e)
	}()
	for _, step := range j.steps {
		if e := step(); e != api.OK {
			return e
		}
	}
	return api.OK
}

// then puts a step behind the others.
func (j *job) then(step func() api.Errno) { j.steps = append(j.steps, step) }

// temp is a name for a node file.
func (j *job) temp() string {
	name := j.desk.Temp()
	j.temps = append(j.temps, name)
	return name
}

// drop deletes files that no later step reads: what goes through many steps needs no room for all of them at once.
func (j *job) drop(names ...string) {
	j.then(func() api.Errno {
		whole.Remove(j.desk, names...)
		return whole.Outcome(j.desk, api.OK)
	})
}

// reduced makes the node file of what a sweep makes.
func (j *job) reduced(to string, down func(arcs string) api.Errno) {
	j.then(func() api.Errno { return passage.Through(j.desk, down, to) })
}

// fix sets levels of f to truths.
func (j *job) fix(f string, lits []api.Lit, to string) {
	j.reduced(to, func(arcs string) api.Errno { return sweep.Fix(j.desk, f, lits, arcs) })
}

// choose takes g where f is true, else h.
func (j *job) choose(f, g, h, to string) {
	j.reduced(to, func(arcs string) api.Errno { return sweep.Three(j.desk, f, g, h, arcs) })
}

// write makes a node file of the nodes that add puts, and of the root that it tells.
func (j *job) write(to string, add func(b *nodes.Builder) (api.Ptr, api.Errno)) {
	j.then(func() api.Errno { return passage.Write(j.desk, j.vars, add, to) })
}

// cube makes the conjunction of literals.
func (j *job) cube(lits []api.Lit, to string) {
	deepest := slices.Clone(lits)
	slices.SortFunc(deepest, func(a, b api.Lit) int { return cmp.Compare(b.Level, a.Level) })
	j.write(to, func(b *nodes.Builder) (api.Ptr, api.Errno) {
		root := api.True
		for _, lit := range deepest {
			low, high := api.False, root
			if !lit.Value {
				low, high = high, low
			}
			var e api.Errno
			if root, e = b.Add(lit.Level, low, high); e != api.OK {
				return 0, e
			}
		}
		return root, api.OK
	})
}

// link makes a node file of another one.
type link func(from, to string)

// chain makes the job's file of f by links, one behind the other.
func (j *job) chain(f string, links []link) {
	from := f
	for i, l := range links {
		to := j.out
		if i < len(links)-1 {
			to = j.temp()
		}
		l(from, to)
		if i > 0 {
			j.drop(from)
		}
		from = to
	}
}
