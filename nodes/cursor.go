package nodes

import (
	"strata/api"
	"strata/tape"
)

// Cursor goes over a node file.
type Cursor struct {
	life
	way   way
	info  api.Info
	given int      // nodes that it has given
	last  api.Node // that it has given
}

// way is one of the two ways over a node file: which record is the next one, and which nodes may be met so.
type way interface {
	next() (api.Rec, api.Errno) // the zero record, if there is none
	mayBegin(n api.Node, root api.Ptr) bool
	mayGoOn(last, n api.Node) bool
	mayEnd(n api.Node, root api.Ptr) bool
	Close() api.Errno
}

// upward goes from the deepest node to the root.
type upward struct{ *tape.Reader }

func (u upward) next() (api.Rec, api.Errno) {
	r, _, e := u.Next()
	return r, e
}

func (u upward) mayBegin(n api.Node, root api.Ptr) bool { return idOf(n.Self) == 0 }

func (u upward) mayGoOn(last, n api.Node) bool { return mayFollow(last, n) }

func (u upward) mayEnd(n api.Node, root api.Ptr) bool { return n.Self == root }

// downward goes from the root to the deepest node.
type downward struct {
	*tape.Reader
	passed bool // the end, which stands ahead of the root on this way
}

func (d *downward) next() (api.Rec, api.Errno) {
	if !d.passed {
		if _, _, e := d.Next(); e != api.OK {
			return api.Rec{}, e
		}
		d.passed = true
	}
	r, _, e := d.Next()
	return r, e
}

func (d *downward) mayBegin(n api.Node, root api.Ptr) bool { return n.Self == root }

func (d *downward) mayGoOn(last, n api.Node) bool { return mayFollow(n, last) }

func (d *downward) mayEnd(n api.Node, root api.Ptr) bool { return idOf(n.Self) == 0 }

// Up begins at the deepest node.
func Up(k *tape.Desk, name string) (*Cursor, api.Errno) {
	f, e := look(k, name)
	if e != api.OK {
		return nil, e
	}
	return f.up()
}

// Down begins at the root.
func Down(k *tape.Desk, name string) (*Cursor, api.Errno) {
	f, e := look(k, name)
	if e != api.OK {
		return nil, e
	}
	return f.down()
}

func (f file) up() (*Cursor, api.Errno) {
	r, e := f.open(f.desk.Read)
	if e != api.OK {
		return nil, e
	}
	return &Cursor{way: upward{r}, info: f.Info}, api.OK
}

func (f file) down() (*Cursor, api.Errno) {
	r, e := f.open(f.desk.Back)
	if e != api.OK {
		return nil, e
	}
	return &Cursor{way: &downward{Reader: r}, info: f.Info}, api.OK
}

// open makes a reader of the file, if it may have a cursor.
func (f file) open(read func(name string, kind int) (*tape.Reader, api.Errno)) (*tape.Reader, api.Errno) {
	if !f.whole {
		return nil, api.ErrShape
	}
	return read(f.name, api.KindNodes)
}

// Next is the next node; false: there is none.
func (c *Cursor) Next() (api.Node, bool, api.Errno) {
	if e := c.refusal(); e != api.OK {
		return api.Node{}, false, e
	}
	if c.given == c.info.Nodes {
		return api.Node{}, false, api.OK
	}
	rec, e := c.way.next()
	if e != api.OK {
		return api.Node{}, false, c.tell(e)
	}
	node, ok := nodeOf(rec, c.info.Vars) // of the zero record: no
	if !ok || !c.fits(node) {
		return api.Node{}, false, c.tell(api.ErrShape)
	}
	c.given++
	c.last = node
	return node, true, api.OK
}

// fits tells whether a node may be the next one.
func (c *Cursor) fits(n api.Node) bool {
	if c.given == 0 && !c.way.mayBegin(n, c.info.Root) {
		return false
	}
	if c.given > 0 && !c.way.mayGoOn(c.last, n) {
		return false
	}
	return c.given+1 < c.info.Nodes || c.way.mayEnd(n, c.info.Root)
}

// Close ends it.
func (c *Cursor) Close() api.Errno {
	if c.closed {
		return api.ErrDone
	}
	c.closed = true
	return c.way.Close()
}
