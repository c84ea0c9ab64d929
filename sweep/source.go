package sweep

import (
	"strata/api"
	"strata/nodes"
	"strata/tape"
)

// source is a node file that is gone down once: what is looked up there must come in the order of that way.
type source struct {
	cursor *nodes.Cursor
	node   api.Node // where it stands
	begun  bool
}

// openSources opens the files of a plan; one that is named twice is one source.
func openSources(k *tape.Desk, names [3]string) ([3]*source, api.Errno) {
	var all [3]*source
	for i, name := range names {
		if first := firstOf(names, i); first < i {
			all[i] = all[first]
			continue
		}
		c, e := nodes.Down(k, name)
		if e != api.OK {
			return all, e
		}
		all[i] = &source{cursor: c}
	}
	return all, api.OK
}

// firstOf is the first place that has the same file as place i.
func firstOf(names [3]string, i int) int {
	first := 0
	for names[first] != names[i] {
		first++
	}
	return first
}

// find goes on to a node. ErrShape: it is not there.
func (s *source) find(p api.Ptr) (api.Node, api.Errno) {
	for !s.begun || s.node.Self != p {
		node, some, e := s.cursor.Next()
		if e != api.OK {
			return api.Node{}, e
		}
		if !some {
			return api.Node{}, api.ErrShape
		}
		s.node, s.begun = node, true
	}
	return s.node, api.OK
}
