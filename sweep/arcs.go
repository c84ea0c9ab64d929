package sweep

import (
	"cmp"
	"slices"

	"strata/api"
	"strata/recs"
	"strata/tape"
	"strata/whole"
)

// Arcs are the arcs of an unreduced diagram, and what ends it.
func Arcs(k *tape.Desk, out string) ([]api.Arc, api.Info, api.Errno) {
	if e := whole.Ready(k, api.OK, []string{Inner(out), Outer(out)}, nil); e != api.OK {
		return nil, api.Info{}, e
	}
	end, some, e := k.Last(Outer(out), api.KindOuter)
	if e != api.OK {
		return nil, api.Info{}, e
	}
	info, ok := infoOf(end)
	if !some || !ok {
		return nil, api.Info{}, api.ErrArcs
	}
	list, heads, e := readInner(k, Inner(out))
	if e != api.OK {
		return nil, api.Info{}, e
	}
	if list, e = readOuter(k, Outer(out), list); e != api.OK {
		return nil, api.Info{}, e
	}
	slices.SortFunc(list, byFrom)
	if !areSound(list, info, heads) {
		return nil, api.Info{}, api.ErrArcs
	}
	return list, info, api.OK
}

// infoOf is what a record tells, if it is an end of arcs. (A word from 2^63 on becomes a number below 0, which no end has.)
func infoOf(r api.Rec) (api.Info, bool) {
	info := api.Info{Vars: int(r[1]), Root: api.Ptr(r[2]), Nodes: int(r[3])}
	return info, r[0] == api.Mark && mayEnd(info)
}

// endRecord is the record that ends arcs.
func endRecord(i api.Info) api.Rec {
	return api.Rec{api.Mark, uint64(i.Vars), uint64(i.Root), uint64(i.Nodes)}
}

// innerRecord is the record of an arc to a node.
func innerRecord(from api.Ptr, side uint64, to api.Ptr) api.Rec {
	return api.Rec{uint64(to), uint64(from), side, 0}
}

// outerRecord is the record of an arc to a leaf.
func outerRecord(from api.Ptr, side uint64, to api.Ptr) api.Rec {
	return api.Rec{uint64(from), side, uint64(to), 0}
}

// mayEnd tells whether arcs may end so.
func mayEnd(i api.Info) bool {
	if i.Vars < 0 || i.Vars > api.MaxVars {
		return false
	}
	if isLeaf(i.Root) {
		return i.Nodes == 0
	}
	level := recs.Level(i.Root)
	return level >= 0 && level < i.Vars && i.Nodes > 0
}

// rise tells whether records rise: each is behind the one ahead of it.
type rise struct {
	last  api.Rec
	begun bool
}

func (r *rise) goesOn(next api.Rec) bool {
	ok := !r.begun || recs.Compare(plain(), r.last, next) < 0
	r.last, r.begun = next, true
	return ok
}

// readInner are the arcs to nodes, and how many nodes they go to. ErrArcs: there is a record that is none, or they do not rise.
func readInner(k *tape.Desk, name string) ([]api.Arc, int, api.Errno) {
	var list []api.Arc
	var order rise
	heads := 0
	for r, e := range k.All(name, api.KindInner) {
		if e != api.OK {
			return nil, 0, e
		}
		if !order.begun || order.last[0] != r[0] {
			heads++
		}
		if r[3] != 0 || !isNode(api.Ptr(r[0])) || !order.goesOn(r) {
			return nil, 0, api.ErrArcs
		}
		list = append(list, api.Arc{From: api.Ptr(r[1]), Side: int(r[2]), To: api.Ptr(r[0])})
	}
	return list, heads, api.OK
}

// readOuter puts the arcs to leaves behind the list. ErrArcs: there is a record that is none, or they do not rise.
func readOuter(k *tape.Desk, name string, list []api.Arc) ([]api.Arc, api.Errno) {
	var order rise
	for r, e := range k.All(name, api.KindOuter) {
		if e != api.OK {
			return nil, e
		}
		if order.last[0] == api.Mark || !order.goesOn(r) { // an end that is not the last record, or a fall
			return nil, api.ErrArcs
		}
		if r[0] == api.Mark {
			continue
		}
		if r[3] != 0 || !isLeaf(api.Ptr(r[2])) {
			return nil, api.ErrArcs
		}
		list = append(list, api.Arc{From: api.Ptr(r[0]), Side: int(r[1]), To: api.Ptr(r[2])})
	}
	return list, api.OK
}

func isNode(p api.Ptr) bool {
	level := recs.Level(p)
	return level >= 0 && level < api.MaxVars
}

// byFrom is the order of the outer tape, byTo that of the inner one.
func byFrom(a, b api.Arc) int {
	return cmp.Or(cmp.Compare(a.From, b.From), cmp.Compare(a.Side, b.Side))
}

func byTo(a, b api.Arc) int { return cmp.Or(cmp.Compare(a.To, b.To), byFrom(a, b)) }

// areSound tells whether arcs, by From and Side, are sound, whatever numbers they have. heads is how many nodes they go to: if each of these has arcs, and they are all nodes but one, then that one is the root, and no other node is without an arc to it.
func areSound(list []api.Arc, info api.Info, heads int) bool {
	if !mayEnd(info) || len(list)%2 != 0 || len(list)/2 != info.Nodes {
		return false
	}
	if len(list) == 0 {
		return true
	}
	if list[0].From != info.Root || heads != info.Nodes-1 {
		return false
	}
	for i, a := range list {
		if a.Side != i%2 || !leadsDown(list, a, info.Vars) {
			return false
		}
		if i > 0 && !inTurn(list[i-1], a) || i == 0 && idOf(a.From) != 0 {
			return false
		}
	}
	return true
}

// inTurn tells whether b may stand behind a: the other side of one node, or the next node.
func inTurn(a, b api.Arc) bool {
	switch {
	case b.Side == 1:
		return b.From == a.From
	case recs.Level(b.From) == recs.Level(a.From):
		return b.From == a.From+1
	}
	return idOf(b.From) == 0
}

// leadsDown tells whether an arc goes from a node to a leaf, or to a deeper node that has arcs.
func leadsDown(list []api.Arc, a api.Arc, vars int) bool {
	if !isNode(a.From) || recs.Level(a.From) >= vars {
		return false
	}
	if isLeaf(a.To) {
		return true
	}
	_, there := slices.BinarySearchFunc(list, api.Arc{From: a.To}, byFrom)
	return there && recs.Level(a.To) > recs.Level(a.From)
}

func idOf(p api.Ptr) int {
	_, id, _, _, _ := recs.Split(p)
	return id
}
