package nodes_test

import (
	"slices"
	"testing"

	"strata/api"
	"strata/nodes"
)

// judge lays any records as a tape of nodes and holds what each call says of it against the words of the chapter. P7.5 to P7.10, P7.12, P7.13, P7.15.
func judge(t *testing.T, k int, list []api.Rec) {
	t.Helper()
	b := lie(t, k, list, list)
	c := len(list) - 1
	info, look := api.Info{}, api.ErrShape
	if c >= 0 && isEnd(list[c]) {
		info, look = infoOf(list[c]), api.OK
	}
	if i, e := nodes.Look(b.Desk, "f"); i != info || e != look {
		t.Fatalf("K %d: Look of %v: %+v, %d, want %+v, %d", k, list, i, e, info, look)
	}
	for way, gives := range []func([]api.Rec) (int, bool){upward, downward} {
		x, e := ways()[way](b.Desk, "f")
		if !whole(list) {
			if x != nil || e != api.ErrShape {
				t.Fatalf("K %d: way %d over %v: %d", k, way, list, e)
			}
			continue
		}
		b.is("a cursor", e, api.OK)
		n, wrong := gives(list)
		b.goesOver(x, list, way == 1, n, wrong)
		if wrong == inRows(list) {
			t.Fatalf("the model contradicts itself: %v", list)
		}
	}
	b.wholeCalls(list, look)
	b.asBefore(list)
}

// goesOver makes a whole round of a cursor, and looks at what it answers behind that.
func (b bench) goesOver(x *nodes.Cursor, list []api.Rec, back bool, n int, wrong bool) {
	b.Helper()
	want := nodesOf(list)
	if back {
		slices.Reverse(want)
	}
	got, e := b.round(x)
	if !slices.Equal(got, want[:n]) || wrong != (e == api.ErrShape) || !wrong && e != api.OK {
		b.Fatalf("over %v, back %v: %v, then %d; want %v", list, back, got, e, want[:n])
	}
	b.still("behind the round", func() {
		for range 3 {
			if node, some, f := x.Next(); node != (api.Node{}) || some || f != e {
				b.Fatalf("over %v: Next again: %v, %v, %d, want %d", list, node, some, f, e)
			}
		}
	})
	b.out("a cursor", b.K())
	b.is("Close", x.Close(), api.OK)
	b.out("a closed cursor", 0)
	b.is("Close", x.Close(), api.ErrDone)
}

// wholeCalls makes the whole operations over a tape and over one that holds the same.
func (b bench) wholeCalls(list []api.Rec, look api.Errno) {
	b.Helper()
	nodesWant, infoWant, allWant, widthWant := []api.Node(nil), api.Info{}, api.ErrShape, 0
	if inRows(list) {
		nodesWant, infoWant, allWant, widthWant = nodesOf(list), infoOf(list[len(list)-1]), api.OK, width(list)
	}
	if l, i, e := nodes.All(b.Desk, "f"); !slices.Equal(l, nodesWant) || i != infoWant || e != allWant {
		b.Fatalf("All of %v: %v, %+v, %d", list, l, i, e)
	}
	check := api.ErrShape
	if wellFormed(list) {
		check = api.OK
	}
	b.is([]any{"Check", list}, nodes.Check(b.Desk, "f"), check)
	if w, e := nodes.Width(b.Desk, "f"); w != widthWant || e != allWant {
		b.Fatalf("Width of %v: %d, %d", list, w, e)
	}
	if v, e := nodes.Equal(b.Desk, "f", "g"); v != (look == api.OK) || e != look {
		b.Fatalf("Equal of %v and the same: %v, %d", list, v, e)
	}
}

// TestShapes: tapes that are in rows, and tapes that are not, of each kind. P7.5 to P7.7, P7.9, P7.10, P7.15.
func TestShapes(t *testing.T) {
	const none = uint64(1)<<63 + 2 // the first number behind the leaves
	chain := []api.Rec{rec(at(2, 0), F, T), rec(at(1, 0), F, at(2, 0)), rec(at(0, 0), F, at(1, 0)), end(3, 0, 3)}
	one := func(r api.Rec) []api.Rec { return []api.Rec{r, end(2, 0, 1)} }
	with := func(list []api.Rec, i int, r api.Rec) []api.Rec {
		list = slices.Clone(list)
		list[i] = r
		return list
	}
	shapes := map[string][]api.Rec{
		"no records":           nil,
		"false over no levels": {end(0, F, 0)}, "true over all levels": {end(65536, T, 0)},
		"and": and(), "xor": xor(), "chain": chain, "one node": one(rec(0, F, T)), "one node, turned": one(rec(0, T, F)),
		"the last level": {rec(at(65535, 0), F, T), end(65536, at(65535, 0), 1)},
		"no end":         and()[:2], "an end that is not last": append(and(), rec(at(0, 0), F, T)), "two ends": append(and(), end(2, T, 0)),
		"a leaf behind nodes": {rec(at(1, 0), F, T), end(2, T, 0)},
		"end: no mark":        {{0, 2, uint64(T), 0}}, "end: near the mark": {{api.Mark - 1, 2, uint64(T), 0}},
		"end: too many levels": {end(65537, T, 0)}, "end: levels of any size": {{api.Mark, api.Mark, uint64(T), 0}},
		"end: a leaf and a node": {end(2, T, 1)}, "end: a leaf and one node that is there": {rec(0, F, T), end(2, T, 1)},
		"end: a node and none": {end(2, 0, 0)}, "end: no pointer": {{api.Mark, 2, none, 0}}, "end: no pointer, one node": {rec(0, F, T), {api.Mark, 2, none, 1}},
		"end: mark as root": {{api.Mark, 2, api.Mark, 0}}, "end: 2^56 as root": {{api.Mark, 65536, 1 << 56, 0}}, "end: 2^63 - 1 as root": {rec(0, F, T), {api.Mark, 65536, 1<<63 - 1, 1}},
		"end: root of id 1": {rec(0, F, T), end(2, at(0, 1), 1)}, "end: root too deep": {rec(at(2, 0), F, T), end(2, at(2, 0), 1)},
		"end: over no levels a node": {rec(0, F, T), end(0, 0, 1)},
		"end: 2^63 nodes":            {{api.Mark, 2, 0, 1 << 63}}, "end: 2^63 - 1 nodes": {{api.Mark, 2, 0, 1<<63 - 1}}, "end: 2^64 - 1 nodes": {{api.Mark, 2, 0, api.Mark}},
		"end: a node too few": with(and(), 2, end(2, 0, 1)), "end: a node too many": with(and(), 2, end(2, 0, 3)), "end: far too many": with(and(), 2, end(2, 0, 1<<40)),
		"end: another root": with(and(), 2, end(2, at(1, 0), 2)), "end: too few levels": with(and(), 2, end(1, 0, 2)), "end: more levels": with(and(), 2, end(9, 0, 2)),
		"first id 1": {rec(at(1, 1), F, T), rec(0, F, at(1, 1)), end(2, 0, 2)}, "the one id 1": {rec(1, F, T), end(2, 0, 1)},
		"the last id 1":  {rec(0, F, T), rec(1, T, F), end(1, 0, 2)},
		"ids with a gap": with(xor(), 1, rec(at(1, 2), T, F)), "an id twice": with(xor(), 1, rec(at(1, 0), T, F)), "ids that fall": with(with(xor(), 0, rec(at(1, 1), F, T)), 1, rec(at(1, 0), T, F)),
		"the greatest id": {rec(at(1, 1<<40-1), F, T), rec(0, F, at(1, 1<<40-1)), end(2, 0, 2)},
		"the greatest id, then the level below's first": {rec(at(0, 1<<40-1), F, T), rec(at(1, 0), F, T), end(2, at(1, 0), 2)},
		"pairs that fall": with(with(xor(), 0, rec(at(1, 0), T, F)), 1, rec(at(1, 1), F, T)), "a pair twice": with(xor(), 1, rec(at(1, 1), F, T)),
		"highs that fall":       {rec(at(2, 0), F, T), rec(at(2, 1), T, F), rec(at(1, 0), at(2, 0), T), rec(at(1, 1), at(2, 0), F), rec(0, at(1, 0), at(1, 1)), end(3, 0, 5)},
		"highs that rise":       {rec(at(2, 0), F, T), rec(at(2, 1), T, F), rec(at(1, 0), at(2, 0), F), rec(at(1, 1), at(2, 0), T), rec(0, at(1, 0), at(1, 1)), end(3, 0, 5)},
		"lows rise, highs fall": {rec(at(2, 0), F, T), rec(at(1, 0), at(2, 0), T), rec(at(1, 1), F, at(2, 0)), rec(0, at(1, 0), at(1, 1)), end(3, 0, 4)},
		"levels that fall":      {rec(0, F, T), rec(at(1, 0), F, T), end(2, at(1, 0), 2)}, "a level again": {rec(at(1, 0), F, T), rec(0, F, at(1, 0)), rec(at(1, 0), F, T), end(2, at(1, 0), 3)},
		"a new level with id 1":        {rec(at(2, 0), F, T), rec(at(1, 1), F, at(2, 0)), rec(0, F, at(1, 1)), end(3, 0, 3)},
		"a new level with its next id": {rec(at(1, 0), F, T), rec(1, F, at(1, 0)), end(2, 0, 2)},
		"low and high the same":        one(rec(0, T, T)), "two nodes as low and high the same": with(and(), 1, rec(0, at(1, 0), at(1, 0))),
		"a fourth word": one(api.Rec{0, uint64(F), uint64(T), 1}), "a great fourth word": one(api.Rec{0, uint64(F), uint64(T), api.Mark}),
		"self a leaf": one(rec(F, F, T)), "self no pointer": one(api.Rec{none, uint64(F), uint64(T), 0}), "self the mark": one(api.Rec{api.Mark, uint64(F), uint64(T), 0}),
		"self 2^56": {rec(1<<56, F, T), end(65536, 0, 1)}, "self too deep": {rec(at(2, 0), F, T), rec(0, F, T), end(2, 0, 2)},
		"low no pointer": one(api.Rec{0, none, uint64(T), 0}), "high no pointer": one(api.Rec{0, uint64(F), none, 0}), "high the mark": one(api.Rec{0, uint64(F), api.Mark, 0}),
		"high 2^56": {rec(0, F, 1<<56), end(65536, 0, 1)}, "high 2^63 - 1": one(api.Rec{0, uint64(F), 1<<63 - 1, 0}),
		"low itself": one(rec(0, 0, T)), "high of its own level": with(xor(), 1, rec(at(1, 1), T, at(1, 0))), "low above it": with(and(), 0, rec(at(1, 0), 0, T)),
		"low of the level behind the last": one(rec(0, at(2, 0), T)), "high of the last level": one(rec(0, F, at(1, 0))),
		"a high that is not there": one(rec(0, F, at(1, 7))), "a low that is not there": with(and(), 1, rec(0, at(1, 1), at(1, 0))),
		"one that is not there behind the last": with(chain, 1, rec(at(1, 0), F, at(2, 1))), "one that is not there ahead of all": with(chain, 2, rec(0, at(1, 0), at(1, 1))),
		"nothing points to the first": {rec(at(1, 0), F, T), rec(0, F, T), end(2, 0, 2)}, "nothing points to the second": {rec(at(1, 0), F, T), rec(at(1, 1), T, F), rec(0, F, at(1, 0)), end(2, 0, 3)},
		"nothing points to the middle":                       {rec(at(2, 0), F, T), rec(at(1, 0), F, at(2, 0)), rec(0, F, at(2, 0)), end(3, 0, 3)},
		"one is there and not pointed to, one the other way": {rec(at(2, 0), F, T), rec(at(2, 1), T, F), rec(0, at(1, 0), at(2, 1)), end(3, 0, 3)},
		"zero records": {{}, {}, end(2, 0, 2)}, "marks": {{api.Mark, api.Mark, api.Mark, api.Mark}},
	}
	shaped := map[bool]int{}
	for what, list := range shapes {
		for _, k := range []int{1, 2, 3, 5} {
			t.Run(what, func(t *testing.T) { judge(t, k, list) })
		}
		shaped[inRows(list)]++
	}
	if shaped[true] < 15 || shaped[false] < 50 {
		t.Errorf("in rows or not: %v", shaped)
	}
}

// word is a number that may be in the place of another one.
func (r *dice) word(was uint64) uint64 {
	near := []uint64{was + 1, was - 1, was ^ 1, was + ids, was - ids, was ^ 1<<63, 0, 1, uint64(F), uint64(T), uint64(T) + 1, api.Mark, 1 << 56, ids, 2 * ids}
	return near[r.below(len(near))]
}

// bend makes a tape another one, a little.
func (r *dice) bend(list []api.Rec) []api.Rec {
	list = slices.Clone(list)
	i, j := r.below(len(list)), r.below(len(list))
	switch r.below(7) {
	case 0:
		w := r.below(4)
		list[i][w] = r.word(list[i][w])
	case 1: // a child that another node has, or a node itself
		list[i][1+r.below(2)] = list[j][r.below(3)]
	case 2:
		list[i], list[j] = list[j], list[i]
	case 3:
		list = slices.Delete(list, i, i+1)
	case 4:
		list = slices.Insert(list, i, list[j])
	case 5: // a node less, and the end knows it
		list = slices.Delete(list, i, i+1)
		if len(list) > 0 {
			list[len(list)-1][3]--
		}
	case 6: // a node more, and the end knows it
		list = slices.Insert(list, i, api.Rec{list[i][0], r.word(list[i][1]), r.word(list[i][2]), 0})
		list[len(list)-1][3]++
	}
	return list
}

// TestBentTapes: node files that are bent once or twice, at random. P7.5 to P7.10, P7.15, G8.
func TestBentTapes(t *testing.T) {
	r := dice(7)
	seen := map[[2]bool]int{}
	for i := range 12000 {
		n := r.below(5)
		list := r.bend(canon(n, r.table(n)))
		if len(list) > 0 && r.below(3) == 0 {
			list = r.bend(list)
		}
		judge(t, 1+i%4, list)
		seen[[2]bool{inRows(list), wellFormed(list)}]++
	}
	if seen[[2]bool{true, true}] < 200 || seen[[2]bool{true, false}] < 200 || seen[[2]bool{}] < 2000 {
		t.Errorf("in rows, well formed: %v", seen)
	}
}

// TestAnyRecords: records of numbers of any size. G1, G8.
func TestAnyRecords(t *testing.T) {
	r := dice(8)
	for i := range 3000 {
		var list []api.Rec
		for range r.below(4) {
			var x api.Rec
			for w := range x {
				x[w] = r.word(uint64(r.below(3)) * ids)
			}
			list = append(list, x)
		}
		last := end(r.below(4), at(r.below(2), 0), len(list))
		judge(t, 1+i%3, append(list, last))
	}
}

// TestFormsOfFunctions: of each function over up to three levels, and of some over more, the file is in rows and well formed. P7.10, P7.14, P7.15.
func TestFormsOfFunctions(t *testing.T) {
	for n := range 4 {
		for number := range 1 << (1 << n) {
			list := canon(n, bitsOf(1<<n, number))
			if !wellFormed(list) {
				t.Fatalf("the model contradicts itself: %v", list)
			}
			judge(t, 1+number%4, list)
		}
	}
	r := dice(9)
	for n := 4; n < 11; n++ {
		judge(t, 1+n%3, canon(n, r.table(n)))
	}
}
