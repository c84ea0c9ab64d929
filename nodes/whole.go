package nodes

import (
	"strata/api"
	"strata/recs"
	"strata/tape"
)

// All are the nodes of a file, the deepest first, and what ends it.
func All(k *tape.Desk, name string) ([]api.Node, api.Info, api.Errno) {
	files, e := begin(k, name)
	if e != api.OK {
		return nil, api.Info{}, e
	}
	c, e := files[0].up()
	if e != api.OK {
		return nil, api.Info{}, e
	}
	defer c.Close()
	list := make([]api.Node, 0, files[0].Nodes)
	for {
		node, some, e := c.Next()
		if e != api.OK {
			return nil, api.Info{}, e
		}
		if !some {
			return list, files[0].Info, api.OK
		}
		list = append(list, node)
	}
}

// Eval is what the diagram answers to an assignment, by level.
func Eval(k *tape.Desk, name string, bits []bool) (bool, api.Errno) {
	files, e := begin(k, name)
	if e != api.OK {
		return false, e
	}
	if len(bits) != files[0].Vars {
		return false, api.ErrArg
	}
	c, e := files[0].down()
	if e != api.OK {
		return false, e
	}
	defer c.Close()
	at := files[0].Root
	for !isLeaf(at) {
		node, some, e := c.Next()
		if e != api.OK {
			return false, e
		}
		if !some { // a low or a high is not there
			return false, api.ErrShape
		}
		if node.Self == at {
			at = child(node, bits[recs.Level(at)])
		}
	}
	return at == api.True, api.OK
}

// child is where a node goes if its level has that truth.
func child(n api.Node, high bool) api.Ptr {
	if high {
		return n.High
	}
	return n.Low
}

// Equal tells whether two files hold the same records.
func Equal(k *tape.Desk, f, g string) (bool, api.Errno) {
	files, e := begin(k, f, g)
	if e != api.OK {
		return false, e
	}
	if files[0].Info != files[1].Info {
		return false, api.OK
	}
	a, e := k.Read(f, api.KindNodes)
	if e != api.OK {
		return false, e
	}
	defer a.Close()
	b, e := k.Read(g, api.KindNodes)
	if e != api.OK {
		return false, e
	}
	defer b.Close()
	return sameRest(a, b)
}

// sameRest tells whether two tapes hold the same from here on.
func sameRest(a, b *tape.Reader) (bool, api.Errno) {
	for {
		x, more, e := a.Next()
		if e != api.OK {
			return false, e
		}
		y, also, e := b.Next()
		if e != api.OK {
			return false, e
		}
		if x != y || more != also {
			return false, api.OK
		}
		if !more {
			return true, api.OK
		}
	}
}

// Width is how many nodes the widest level has.
func Width(k *tape.Desk, name string) (int, api.Errno) {
	files, e := begin(k, name)
	if e != api.OK {
		return 0, e
	}
	c, e := files[0].up()
	if e != api.OK {
		return 0, e
	}
	defer c.Close()
	width := 0
	for {
		node, some, e := c.Next()
		if e != api.OK {
			return 0, e
		}
		if !some {
			return width, api.OK
		}
		width = max(width, idOf(node.Self)+1) // the ids of a level are 0, 1, 2 ..
	}
}
