package sweep

import (
	"strata/api"
	"strata/recs"
)

// state is a tuple, most often of pointers of the operands. What an operation has no use for is unused.
type state [3]api.Ptr

// unused stands in the places of a state that its operation has no use for: a leaf is never looked up.
const unused = api.False

// kids are the children at both sides of each pointer of a state, at the level of the state.
type kids [3][2]api.Ptr

// stop is a place on the way down: of each level first that of the states which are only passed on, then that of the nodes.
type stop int

// nowhere is the stop of what is settled.
const nowhere stop = -1

func passAt(level int) stop { return stop(2 * level) }

func nodesAt(level int) stop { return stop(2*level + 1) }

func (at stop) level() int { return int(at) / 2 }

func (at stop) passes() bool { return at%2 == 0 }

// node is the pointer to the state of that number at the stop.
func (at stop) node(id uint64) api.Ptr { return api.Ptr(at.level())<<idBits | api.Ptr(id) }

// fate is what becomes of a tuple: a state at a stop; or a leaf, which is then the first of its state.
type fate struct {
	at    stop
	state state
}

func settled(leaf api.Ptr) fate { return fate{nowhere, state{leaf}} }

// waiting is the fate of a state that is a node of the least of its levels.
func waiting(s state) fate {
	return fate{nodesAt(min(recs.Level(s[0]), recs.Level(s[1]), recs.Level(s[2]))), s}
}

// plan is what one operation hands to the sweep.
type plan struct {
	files  [3]string // of which node file each pointer of a state is
	root   state
	become func(s state) fate                              // what becomes of a tuple
	child  func(at stop, s state, of kids, side int) state // the tuple that a state leads to; of one that is passed on the side says nothing
	passes bool                                            // some states are only passed on
}

// bySide is the child of a state of which each pointer goes to its child.
func bySide(at stop, s state, of kids, side int) state {
	return state{of[0][side], of[1][side], of[2][side]}
}

func isLeaf(p api.Ptr) bool { return p == api.False || p == api.True }

// two joins pairs (a, b) by an operator.
func two(op int, root state, f, g string) plan {
	answer := func(a, b api.Ptr) api.Ptr { // of leaves
		return recs.Leaf(op>>(2*(a&1)+b&1)&1 == 1)
	}
	return plan{files: [3]string{f, g, f}, root: root, child: bySide, become: func(s state) fate {
		a, b := s[0], s[1]
		switch {
		case isLeaf(a) && isLeaf(b):
			return settled(answer(a, b))
		case isLeaf(a) && answer(a, api.False) == answer(a, api.True):
			return settled(answer(a, api.False))
		case isLeaf(b) && answer(api.False, b) == answer(api.True, b):
			return settled(answer(api.False, b))
		}
		return waiting(s)
	}}
}

// three chooses in triples (c, a, b) by c between a and b.
func three(root state, f, g, h string) plan {
	return plan{files: [3]string{f, g, h}, root: root, child: bySide, become: func(s state) fate {
		switch s[0] {
		case api.True:
			s[2] = api.False
		case api.False:
			s[1] = api.False
		}
		c, a, b := s[0], s[1], s[2]
		switch {
		case c == api.True && isLeaf(a):
			return settled(a)
		case c == api.False && isLeaf(b):
			return settled(b)
		case a == b && isLeaf(a):
			return settled(a)
		}
		return waiting(s)
	}}
}

// fix passes on the pointers (a) at the levels that are set, each to its side.
func fix(sides map[int]int, root api.Ptr, f string) plan {
	become := func(s state) fate {
		if isLeaf(s[0]) {
			return settled(s[0])
		}
		level := recs.Level(s[0])
		if _, set := sides[level]; set {
			return fate{passAt(level), s}
		}
		return waiting(s)
	}
	child := func(at stop, s state, of kids, side int) state {
		if at.passes() {
			side = sides[at.level()]
		}
		return state{of[0][side], unused, unused}
	}
	return plan{files: [3]string{f, f, f}, root: state{root, unused, unused}, become: become, child: child, passes: true}
}

// quant joins pairs (a, b) of what a diagram is with a level false and with it true. A pair of one and the same node of that level is passed on to its low and high.
func quant(level int, any bool, root api.Ptr, f string) plan {
	strong, weak := api.True, api.False // the leaf that decides, and the one that leaves it to the other half
	if !any {
		strong, weak = weak, strong
	}
	become := func(s state) fate {
		a, b := s[0], s[1]
		switch {
		case a == b && recs.Level(a) == level:
			return fate{passAt(level), s}
		case a == b:
		case a == strong || b == strong:
			a, b = strong, strong
		case a == weak:
			a = b
		case b == weak:
			b = a
		case a > b:
			a, b = b, a
		}
		if a == b && isLeaf(a) {
			return settled(a)
		}
		return waiting(state{a, b, unused})
	}
	child := func(at stop, s state, of kids, side int) state {
		if at.passes() {
			return state{of[0][0], of[1][1], unused}
		}
		return bySide(at, s, of, side)
	}
	return plan{files: [3]string{f, f, f}, root: state{root, root, unused}, become: become, child: child, passes: true}
}

// single is the state (a) of a swap; of the others the first place is a mark.
func single(a api.Ptr) state { return state{unused, a, unused} }

// mark stands for (a, s) of a swap: a number that rises with a, then s, and is no pointer.
func mark(a api.Ptr, s int) api.Ptr {
	_, id, _, _, _ := recs.Split(a)
	return api.True + 1 + 2*api.Ptr(id) + api.Ptr(s)
}

// sideOfMark is the s of a mark.
func sideOfMark(m api.Ptr) int { return int(m & 1) }

// swap changes a level and the next one. Below (a) at the level stands (mark, low, high), whose low and high are then passed on to their children at the mark's side: so MEET is told one stop later than its level, when those have been looked up. Behind that the state (mark, x, y) knows its children.
func swap(level int, root api.Ptr, f string) plan {
	become := func(s state) fate {
		below := recs.Level(s[1]) == level+1 || recs.Level(s[2]) == level+1
		switch {
		case s[0] != unused && below:
			return fate{passAt(level + 1), s}
		case s[0] != unused && s[1] != s[2]:
			return fate{nodesAt(level + 1), s}
		case isLeaf(s[1]):
			return settled(s[1])
		case s[0] == unused && below:
			return fate{nodesAt(level), s}
		}
		return waiting(single(s[1]))
	}
	child := func(at stop, s state, of kids, side int) state {
		switch at {
		case nodesAt(level): // of a pointer to the level below both kids are the pointer itself
			return state{mark(s[1], side), of[1][0], of[1][1]}
		case passAt(level + 1):
			side = sideOfMark(s[0])
			return state{s[0], of[1][side], of[2][side]}
		case nodesAt(level + 1):
			return single(s[1+side])
		}
		return single(of[1][side])
	}
	return plan{files: [3]string{f, f, f}, root: single(root), become: become, child: child, passes: true}
}
