package bench

import (
	"slices"

	"strata/api"
)

// Arcs are the two tapes of arcs of a name.
func Arcs(name string, inner, outer []api.Rec) []Strip {
	return []Strip{{name + ".i", api.KindInner, inner}, {name + ".o", api.KindOuter, outer}}
}

// byWords is the order of the two tapes.
func byWords(a, b api.Rec) int { return slices.Compare(a[:], b[:]) }

// ByWords sorts records as those of the two tapes stand.
func ByWords(list []api.Rec) { slices.SortFunc(list, byWords) }

// Means is the function of two tapes of arcs that are sound.
func Means(inner, outer []api.Rec) []bool {
	to := map[[2]uint64]uint64{}
	for _, r := range inner {
		to[[2]uint64{r[1], r[2]}] = r[0]
	}
	last := len(outer) - 1
	for _, r := range outer[:last] {
		to[[2]uint64{r[0], r[1]}] = r[2]
	}
	n := int(outer[last][1])
	return TableOf(n, func(x int) bool {
		p := outer[last][2]
		for p < first {
			p = to[[2]uint64{p, uint64(Side(Bit(n, x, int(p/ids))))}]
		}
		return p > first
	})
}

// isEnd tells whether a record is an end of arcs.
func isEnd(r api.Rec) bool {
	n, root, c := r[1], r[2], r[3]
	if r[0] != ^uint64(0) || n > 65536 || c >= 1<<63 {
		return false
	}
	if root == first || root == first+1 {
		return c == 0
	}
	return root/ids < n && c > 0
}

// told is what arcs tell of nodes.
type told struct {
	n     uint64
	sides map[uint64][2]int // of each node that is told of: how many arcs of each side it has
	heads map[uint64]int    // how many arcs go to it
}

// arc takes an arc; false: there is none such.
func (t told) arc(from, side, to, rest uint64) bool {
	if from/ids >= t.n || side > 1 || rest != 0 {
		return false
	}
	s := t.sides[from]
	s[side]++
	t.sides[from] = s
	if to == first || to == first+1 {
		return true
	}
	if to/ids >= t.n || to/ids <= from/ids {
		return false
	}
	t.sides[to] = t.sides[to]
	t.heads[to]++
	return true
}

// whole tells whether each node has its arcs and the ids are as they must be.
func (t told) whole(root uint64) bool {
	most, count := map[uint64]uint64{}, map[uint64]uint64{}
	for p, s := range t.sides {
		if s != [2]int{1, 1} || p != root && t.heads[p] == 0 {
			return false
		}
		most[p/ids] = max(most[p/ids], p%ids)
		count[p/ids]++
	}
	for l := range count {
		if most[l] != count[l]-1 {
			return false
		}
	}
	return true
}

// AreSound tells whether two tapes are sound, by the words of DOC.md.
func AreSound(inner, outer []api.Rec) bool {
	if len(outer) == 0 || !isEnd(outer[len(outer)-1]) {
		return false
	}
	last := outer[len(outer)-1]
	outer = outer[:len(outer)-1]
	if !slices.IsSortedFunc(inner, byWords) || !slices.IsSortedFunc(outer, byWords) {
		return false
	}
	t := told{last[1], map[uint64][2]int{}, map[uint64]int{}}
	if last[2] < first {
		t.sides[last[2]] = [2]int{}
	}
	for _, r := range inner {
		if !t.arc(r[1], r[2], r[0], r[3]) || r[0] >= first {
			return false
		}
	}
	for _, r := range outer {
		if !t.arc(r[0], r[1], r[2], r[3]) || r[2] < first {
			return false
		}
	}
	return t.whole(last[2]) && uint64(len(t.sides)) == last[3]
}

// SmallArcs are two tapes over 3 levels with five nodes: 0:0 to 1:0 and 1:1; 1:0 to F and 2:0; 1:1 to 2:0 and 2:1; both leaves below.
func SmallArcs() (inner, outer []api.Rec) {
	inner = []api.Rec{{node(1, 0), 0, 0}, {node(1, 1), 0, 1}, {node(2, 0), node(1, 0), 1}, {node(2, 0), node(1, 1), 0}, {node(2, 1), node(1, 1), 1}}
	outer = []api.Rec{{node(1, 0), 0, leaf0}, {node(2, 0), 0, leaf0}, {node(2, 0), 1, leaf1}, {node(2, 1), 0, leaf1}, {node(2, 1), 1, leaf1}, End(3, 0, 5)}
	return inner, outer
}

const (
	leaf0 = uint64(api.False)
	leaf1 = uint64(api.True)
)

func node(level, id int) uint64 { return uint64(At(level, id)) }

// Wrong is a pair of tapes with one thing wrong.
type Wrong struct {
	What         string
	Inner, Outer []api.Rec
}

// change makes of the small arcs those with one thing wrong.
type change struct {
	what string
	do   func(i, o []api.Rec) ([]api.Rec, []api.Rec)
}

// set is a change of one word.
func set(what string, do func(i, o []api.Rec)) change {
	return change{what, func(i, o []api.Rec) ([]api.Rec, []api.Rec) { do(i, o); return i, o }}
}

// UnsoundArcs are small arcs with one thing wrong, of each kind that DOC.md tells.
func UnsoundArcs() []Wrong {
	var out []Wrong
	for _, c := range slices.Concat(wrongEnds(), wrongWords(), wrongArcs(), wrongNodes()) {
		inner, outer := c.do(SmallArcs())
		out = append(out, Wrong{c.what, inner, outer})
	}
	return out
}

func wrongEnds() []change {
	return []change{
		{"no record", func(i, o []api.Rec) ([]api.Rec, []api.Rec) { return i, nil }},
		{"no end", func(i, o []api.Rec) ([]api.Rec, []api.Rec) { return i, o[:5] }},
		{"two ends", func(i, o []api.Rec) ([]api.Rec, []api.Rec) { return i, append(o, o[5]) }},
		{"an end ahead", func(i, o []api.Rec) ([]api.Rec, []api.Rec) { return i, append([]api.Rec{o[5]}, o...) }},
		{"another end ahead", func(i, o []api.Rec) ([]api.Rec, []api.Rec) { return i, slices.Insert(o, 5, End(0, 0, 0)) }},
		{"an end among the inner ones", func(i, o []api.Rec) ([]api.Rec, []api.Rec) { return append(i, o[5]), o }},
		set("more levels than may be", func(i, o []api.Rec) { o[5][1] = 65537 }),
		set("levels without end", func(i, o []api.Rec) { o[5][1] = 1<<63 + 3 }),
		set("a level that is not there", func(i, o []api.Rec) { o[5][1] = 2 }),
		set("no levels", func(i, o []api.Rec) { o[5][1] = 0 }),
		set("a node too many in the end", func(i, o []api.Rec) { o[5][3] = 6 }),
		set("a node too few in the end", func(i, o []api.Rec) { o[5][3] = 4 }),
		set("nodes without end", func(i, o []api.Rec) { o[5][3] = 1 << 63 }),
		set("as many nodes as may be", func(i, o []api.Rec) { o[5][3] = 1<<63 - 1 }),
		set("no nodes in the end", func(i, o []api.Rec) { o[5][3] = 0 }),
		set("twice as many and around", func(i, o []api.Rec) { o[5][3] = 1<<62 + 5 }),
		set("a root that is a leaf", func(i, o []api.Rec) { o[5][2] = leaf1 }),
		set("a leaf without nodes", func(i, o []api.Rec) { o[5] = End(3, api.False, 0) }),
		set("a root that is another node", func(i, o []api.Rec) { o[5][2] = node(1, 0) }),
		set("a root that is not there", func(i, o []api.Rec) { o[5][2] = 1 }),
		set("a root that is no pointer", func(i, o []api.Rec) { o[5][2] = leaf1 + 1 }),
		set("a root whose id is 1", func(i, o []api.Rec) { i[0][1], i[1][1], o[5][2] = 1, 1, 1 }),
	}
}

func wrongWords() []change {
	return []change{
		set("a fourth word, inner", func(i, o []api.Rec) { i[2][3] = 1 }),
		set("a fourth word, outer", func(i, o []api.Rec) { o[2][3] = 1 << 63 }),
		set("a side 2, inner", func(i, o []api.Rec) { i[4][2] = 2 }),
		set("a side 2, outer", func(i, o []api.Rec) { o[4][1] = 2 }),
		set("a side 2 for another node", func(i, o []api.Rec) { i[3] = api.Rec{node(2, 0), node(1, 0), 2} }),
		set("a side without end", func(i, o []api.Rec) { o[4][1] = 1<<64 - 1 }),
		set("a leaf among the inner ones", func(i, o []api.Rec) { i[4][0] = leaf0 }),
		set("a node among the outer ones", func(i, o []api.Rec) { o[0][2] = node(2, 0) }),
		set("no leaf", func(i, o []api.Rec) { o[0][2] = leaf1 + 1 }),
		set("from a leaf", func(i, o []api.Rec) { o[4][0] = leaf1 }),
		set("from no pointer", func(i, o []api.Rec) { i[4][1] = 1 << 62 }),
		set("a fall", func(i, o []api.Rec) { o[1], o[2] = o[2], o[1] }),
		set("an inner fall", func(i, o []api.Rec) { i[2], i[3] = i[3], i[2] }),
		set("an arc to its own level", func(i, o []api.Rec) { i[2][0] = node(1, 1) }),
		set("an arc up", func(i, o []api.Rec) { i[0][0], i[0][1] = 0, node(1, 0) }),
	}
}

func wrongArcs() []change {
	return []change{
		{"a side that is missing", func(i, o []api.Rec) ([]api.Rec, []api.Rec) { return i, slices.Delete(o, 0, 1) }},
		set("a side that is there twice", func(i, o []api.Rec) { o[4][1] = 0 }),
		{"a side to two leaves", func(i, o []api.Rec) ([]api.Rec, []api.Rec) {
			return i, slices.Insert(o, 1, api.Rec{node(1, 0), 0, leaf1})
		}},
		{"a side to a node and a leaf", func(i, o []api.Rec) ([]api.Rec, []api.Rec) {
			return i, slices.Insert(o, 1, api.Rec{node(1, 0), 1, leaf1})
		}},
		{"an equal record", func(i, o []api.Rec) ([]api.Rec, []api.Rec) { return i, slices.Insert(o, 1, o[0]) }},
		{"an equal inner record", func(i, o []api.Rec) ([]api.Rec, []api.Rec) { return slices.Insert(i, 1, i[0]), o }},
	}
}

func wrongNodes() []change {
	more := func(p uint64, n int) func(i, o []api.Rec) ([]api.Rec, []api.Rec) {
		return func(i, o []api.Rec) ([]api.Rec, []api.Rec) {
			return i, append(o[:5:5], api.Rec{p, 0, leaf0}, api.Rec{p, 1, leaf1}, End(n, 0, 6))
		}
	}
	return []change{
		{"a node that is no pointer", more(1<<62, 3)},
		{"a node that is a leaf", more(leaf1, 65536)},
		{"a node of a level that is not there", more(node(3, 0), 3)},
		{"two nodes beside the root", func(i, o []api.Rec) ([]api.Rec, []api.Rec) {
			return i, append(slices.Insert(o[:5], 0, api.Rec{1, 0, leaf0}, api.Rec{1, 1, leaf1}), End(3, 0, 6))
		}},
		set("an id that is left out", func(i, o []api.Rec) { i[4][0]++; o[3][0]++; o[4][0]++ }),
		set("a level that begins with 1", func(i, o []api.Rec) {
			for j := 2; j < 5; j++ {
				i[j][0]++
			}
			for j := 1; j < 5; j++ {
				o[j][0]++
			}
		}),
		set("the greatest id", func(i, o []api.Rec) { i[4][0], o[3][0], o[4][0] = 3<<40-1, 3<<40-1, 3<<40-1 }),
		set("a node that nobody goes to", func(i, o []api.Rec) { i[4][0] = node(2, 0) }),
		{"a node without arcs", func(i, o []api.Rec) ([]api.Rec, []api.Rec) { o[5][3] = 4; return i, slices.Delete(o, 3, 5) }},
		set("another node without arcs", func(i, o []api.Rec) { i[4][0]++ }),
		set("a level that has fewer heads", func(i, o []api.Rec) { i[1], i[4] = i[4], api.Rec{node(2, 2), 0, 1} }),
	}
}
