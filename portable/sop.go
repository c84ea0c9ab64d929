package portable

import (
	"bytes"
	"slices"
	"strconv"

	"strata/api"
	"strata/nodes"
	"strata/pqueue"
	"strata/recs"
	"strata/tape"
)

// Joints of a sum of products.
const (
	and = " & "
	or  = " | "
)

// bundle are the products of paths that have come to the same place, as far as they have grown.
type bundle [][]byte

// sum is the making of a sum of products: all paths grow from the root down, as texts, while the nodes are gone over once. Every path that has begun comes to the leaf True; so the texts together are never longer than what they become.
type sum struct {
	waiting *pqueue.Queue     // which bundle waits for which node
	bundles map[uint64]bundle // by number
	last    uint64            // the number that was given last
	done    bundle            // what has come to the leaf True
	size    int               // bytes of all products, with what joins them
}

// goDown lets all products grow.
func (s *sum) goDown(k *tape.Desk, f string, root api.Ptr) api.Errno {
	c, e := nodes.Down(k, f)
	if e != api.OK {
		return e
	}
	defer c.Close()
	if s.waiting, e = pqueue.New(k, api.Order{0, 1, 2, 3}, k.Purse().Free()); e != api.OK {
		return e
	}
	defer s.waiting.Close()
	if e := s.send(bundle{nil}, root); e != api.OK {
		return e
	}
	for {
		node, some, e := c.Next()
		if e != api.OK {
			return e
		}
		if !some {
			break
		}
		if e := s.pass(node); e != api.OK {
			return e
		}
	}
	if s.waiting.Len() > 0 { // for nodes that are not there
		return api.ErrShape
	}
	return api.OK
}

// send lets a bundle wait for the node that its paths go on to.
func (s *sum) send(b bundle, to api.Ptr) api.Errno {
	switch to {
	case api.False:
		return api.OK
	case api.True:
		s.done = append(s.done, b...)
		return api.OK
	}
	s.last++
	s.bundles[s.last] = b
	return s.waiting.Push(api.Rec{turned(to), s.last})
}

// turned is a number by which nodes rise in the order of a cursor that goes down: level by level, but the ids of a level from the greatest on.
func turned(to api.Ptr) uint64 { return uint64(to) ^ api.MaxId }

// take are the products that wait for a node.
func (s *sum) take(at api.Ptr) (bundle, api.Errno) {
	var all bundle
	for s.waiting.Len() > 0 {
		r, e := s.waiting.Peek()
		if e == api.OK && r[0] != turned(at) {
			break
		}
		if e == api.OK {
			_, e = s.waiting.Pop()
		}
		if e != api.OK {
			return nil, e
		}
		all = append(all, s.bundles[r[1]]...)
		delete(s.bundles, r[1])
	}
	return all, api.OK
}

// pass lets the products that have come to a node go on along its arcs.
func (s *sum) pass(node api.Node) api.Errno {
	low, e := s.take(node.Self)
	if e != api.OK {
		return e
	}
	if len(low) == 0 { // no arc leads here
		return api.ErrShape
	}
	high := low // where one of the two is the leaf False, the other one has all
	if node.Low != api.False && node.High != api.False {
		if high, e = s.double(low); e != api.OK {
			return e
		}
	}
	name := "x" + strconv.Itoa(recs.Level(node.Self))
	if e := s.goOn(low, "!"+name, node.Low); e != api.OK {
		return e
	}
	return s.goOn(high, name, node.High)
}

// double is a bundle once more, in memory of its own.
func (s *sum) double(b bundle) (bundle, api.Errno) {
	other := make(bundle, 0, len(b))
	for _, product := range b {
		if e := s.spend(len(or) + len(product)); e != api.OK {
			return nil, e
		}
		other = append(other, bytes.Clone(product))
	}
	return other, api.OK
}

// goOn lets a bundle grow by a literal, if it does not come to its end.
func (s *sum) goOn(b bundle, literal string, to api.Ptr) api.Errno {
	if to == api.False {
		return api.OK
	}
	for i, product := range b {
		was := len(product)
		if was > 0 {
			product = append(product, and...)
		}
		b[i] = append(product, literal...)
		if e := s.spend(len(b[i]) - was); e != api.OK {
			return e
		}
	}
	return s.send(b, to)
}

// spend counts bytes of the text.
func (s *sum) spend(more int) api.Errno {
	s.size += more
	if s.size > api.MaxText {
		return api.ErrLong
	}
	return api.OK
}

// text is the sum. Where two paths part, the text of the one that goes to the low has a ! and the other one an x: so the order of the texts, byte by byte, is that of the paths.
func (s *sum) text() (string, api.Errno) {
	slices.SortFunc(s.done, bytes.Compare)
	text := bytes.Join(s.done, []byte(or))
	tree := 0 // nodes of the formula
	for _, b := range text {
		switch b {
		case 'x', '!', and[1], or[1]:
			tree++
		}
	}
	if tree > api.MaxTree {
		return "", api.ErrMany
	}
	return string(text), api.OK
}
