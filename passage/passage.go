// Package passage is what operations over node files go through: a sweep down, whose arcs are there for it alone, and a reduction up; or a builder, node by node.
package passage

import (
	"strata/api"
	"strata/reduce"
	"strata/sweep"
	"strata/tape"
	"strata/whole"
)

// Through makes the node file of the arcs that down makes under the name it is handed.
func Through(k *tape.Desk, down func(arcs string) api.Errno, out string) api.Errno {
	arcs := spare(k)
	defer whole.Remove(k, sweep.Inner(arcs), sweep.Outer(arcs))
	if e := down(arcs); e != api.OK {
		return e
	}
	return reduce.Reduce(k, arcs, out)
}

// spare is a name for two tapes of arcs. Temp looks at that name alone, and tapes may be there that were left when the power went off.
func spare(k *tape.Desk) string {
	for {
		name := k.Temp()
		if !isThere(k, sweep.Inner(name)) && !isThere(k, sweep.Outer(name)) {
			return name
		}
	}
}

func isThere(k *tape.Desk, name string) bool {
	_, _, e := k.Disk().Length(name)
	return e == api.OK
}
