package nodes

import (
	"strata/api"
	"strata/recs"
	"strata/tape"
)

// Builder writes a node file, the deepest level first.
type Builder struct {
	life
	writer *tape.Writer
	vars   int
	last   api.Node // that was added
}

// Begin begins a node file over so many levels.
func Begin(k *tape.Desk, name string, vars int) (*Builder, api.Errno) {
	if k == nil || vars < 0 || vars > api.MaxVars {
		return nil, api.ErrArg
	}
	w, e := k.Write(name, api.KindNodes)
	if e != api.OK {
		return nil, e
	}
	return &Builder{writer: w, vars: vars}, api.OK
}

// Add puts the next node; the pointer to it.
func (b *Builder) Add(level int, low, high api.Ptr) (api.Ptr, api.Errno) {
	if e := b.refusal(); e != api.OK {
		return 0, e
	}
	node, e := b.next(level, low, high)
	if e != api.OK {
		return 0, e
	}
	if e := b.writer.Put(recordOf(node)); e != api.OK {
		return 0, b.tell(e)
	}
	b.last = node
	return node.Self, api.OK
}

// next is the node that is added with these, if it may stand behind the last one.
func (b *Builder) next(level int, low, high api.Ptr) (api.Node, api.Errno) {
	if level < 0 || level >= b.vars {
		return api.Node{}, api.ErrLevel
	}
	if !mayBranch(level, low, high, b.vars) {
		return api.Node{}, api.ErrNode
	}
	id := 0
	if b.begun() && level >= recs.Level(b.last.Self) {
		if level > recs.Level(b.last.Self) || !isBehind(low, high, b.last) {
			return api.Node{}, api.ErrNode
		}
		id = idOf(b.last.Self) + 1
	}
	self, e := recs.Inner(level, id) // ErrMany, if there is no such id
	if e != api.OK {
		return api.Node{}, e
	}
	return api.Node{Self: self, Low: low, High: high}, api.OK
}

// begun tells whether a node was added.
func (b *Builder) begun() bool { return b.writer.Count() > 0 }

// Done ends the file.
func (b *Builder) Done(root api.Ptr) api.Errno {
	if b.closed {
		return api.ErrDone
	}
	if b.dead == api.OK && !b.mayBeRoot(root) {
		return api.ErrRoot
	}
	b.closed = true
	// A dead writer answers both with what it is dead of.
	put := b.writer.Put(endOf(api.Info{Vars: b.vars, Root: root, Nodes: b.writer.Count()}))
	shut := b.writer.Close()
	if put != api.OK {
		return put
	}
	return shut
}

// mayBeRoot tells whether what was added may end with this root.
func (b *Builder) mayBeRoot(root api.Ptr) bool {
	if !b.begun() {
		return isLeaf(root)
	}
	return root == b.last.Self && idOf(root) == 0
}

// Drop gives the file up.
func (b *Builder) Drop() api.Errno {
	if b.closed {
		return api.ErrDone
	}
	b.closed = true
	return b.writer.Drop()
}
