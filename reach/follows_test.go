package reach_test

import (
	"strings"
	"testing"

	"strata/api"
	"strata/bench"
	"strata/reach"
)

// lab is an engine on which handles are made and held against one another.
type lab struct {
	*rig
	steps int
}

func newLab(t *testing.T, seed, bits int) (lab, *bench.Dice) {
	d := bench.Dice(seed)
	r := begin(t, 1+seed%4, options(2*bits, 1+seed%4))
	r.order(d.Some(2*bits, 2*bits)...)
	return lab{r, r.put(anySteps(&d, bits))}, &d
}

// is the handle of a call that is not refused.
func (l lab) is(h int, e api.Errno) int {
	l.Helper()
	if e != api.OK || h == 0 {
		l.Fatalf("%d, %d", h, e)
	}
	return h
}

func (l lab) post(a int) int         { l.Helper(); return l.is(reach.Post(l.e, l.steps, a)) }
func (l lab) pre(a int) int          { l.Helper(); return l.is(reach.Pre(l.e, l.steps, a)) }
func (l lab) apply(op, a, b int) int { l.Helper(); return l.is(l.e.Apply(op, a, b)) }
func (l lab) always(a int) int       { l.Helper(); return l.is(reach.Always(l.e, l.steps, a)) }
func (l lab) until(while, end int) int {
	l.Helper()
	return l.is(reach.Until(l.e, l.steps, while, end))
}
func (l lab) reach(a int) (int, int) {
	l.Helper()
	h, n, e := reach.Reach(l.e, l.steps, a)
	return l.is(h, e), n
}
func (l lab) one(s int) int {
	l.Helper()
	in := make(set, 1<<l.bits())
	in[s] = true
	return l.putSet(in)
}
func (l lab) any(d *bench.Dice) int        { l.Helper(); return l.putSet(anySet(d, l.bits())) }
func (l lab) same(what string, a, b int)   { l.Helper(); l.check(what, true, a, b) }
func (l lab) within(what string, a, b int) { l.Helper(); l.same(what, a, l.apply(api.OpAnd, a, b)) }
func (l lab) holds(text string, a, b int) int {
	l.Helper()
	h, f := reach.Holds(l.e, l.steps, []string{"p", "q"}, []int{a, b}, text)
	return l.is(h, f.Code)
}

func (l lab) check(what string, want bool, a, b int) {
	l.Helper()
	if same, e := l.e.Equal(a, b); same != want || e != api.OK {
		l.Fatalf("%s: %v, %d", what, same, e)
	}
}

// empty tells whether a set has no state.
func (l lab) empty(a int) bool {
	l.Helper()
	n, e := l.e.Count(a)
	if e != api.OK {
		l.Fatalf("Count: %d", e)
	}
	return n.Sign() == 0
}

// TestFixedSets: Reach and Until are the least sets, Always the greatest, that hold what they must. P19.8.
func TestFixedSets(t *testing.T) {
	for seed := range 25 {
		l, d := newLab(t, seed, 1+seed%3)
		a, b, other := l.any(d), l.any(d), l.any(d)
		r, _ := l.reach(a)
		l.within("Reach holds its set", a, r)
		l.within("and Post of itself", l.post(r), r)
		u := l.until(a, b)
		l.within("Until holds its end", b, u)
		l.within("and what leads to it", l.apply(api.OpAnd, a, l.pre(u)), u)
		g := l.always(a)
		l.within("Always is within its set", g, a)
		l.within("and within Pre of itself", g, l.pre(g))
		l.least(other, a, b, r, u, g)
	}
}

// least grows, or shrinks, another set until it is as they are: then it holds them, or is within.
func (l lab) least(other, a, b, r, u, g int) {
	l.Helper()
	x, y, z := l.apply(api.OpOr, other, a), l.apply(api.OpOr, other, b), l.apply(api.OpAnd, other, a)
	for range 1 << l.bits() {
		x = l.apply(api.OpOr, x, l.post(x))
		y = l.apply(api.OpOr, y, l.apply(api.OpAnd, a, l.pre(y)))
		z = l.apply(api.OpAnd, z, l.pre(z))
	}
	l.within("Reach is the least", r, x)
	l.within("Until is the least", u, y)
	l.within("Always is the greatest", z, g)
}

// TestPostAndPre: of unions, and of single states. P19.8.
func TestPostAndPre(t *testing.T) {
	for seed := range 12 {
		l, d := newLab(t, 100+seed, 1+seed%3)
		a, b := l.any(d), l.any(d)
		l.same("Post of a union", l.post(l.apply(api.OpOr, a, b)), l.apply(api.OpOr, l.post(a), l.post(b)))
		l.same("Pre of a union", l.pre(l.apply(api.OpOr, a, b)), l.apply(api.OpOr, l.pre(a), l.pre(b)))
		for range 4 {
			s, to := l.one(d.Below(1<<l.bits())), l.one(d.Below(1<<l.bits()))
			leads := !l.empty(l.apply(api.OpAnd, l.post(s), to))
			if back := !l.empty(l.apply(api.OpAnd, l.pre(to), s)); back != leads {
				t.Errorf("Post %v, Pre %v", leads, back)
			}
		}
	}
}

// TestTraceAndReach: there is a way just if Reach comes there, of as many steps as it needs. P19.8.
func TestTraceAndReach(t *testing.T) {
	ways, none := 0, 0
	for seed := range 40 {
		l, d := newLab(t, 200+seed, 1+seed%3)
		a, b := l.any(d), l.any(d)
		way, e := reach.Trace(l.e, l.steps, a, b)
		r, _ := l.reach(a)
		if comes := !l.empty(l.apply(api.OpAnd, r, b)); comes != (e == api.OK) || !comes && e != api.ErrLeaf {
			t.Fatalf("Trace: %d, but Reach comes there: %v", e, comes)
		}
		if e != api.OK {
			none++
			continue
		}
		ways++
		front := a
		for range len(way) - 1 {
			if !l.empty(l.apply(api.OpAnd, front, b)) {
				t.Fatalf("%v: there is a shorter way", way)
			}
			front = l.post(front)
		}
		if l.empty(l.apply(api.OpAnd, front, b)) {
			t.Fatalf("%v: so many steps do not come there", way)
		}
	}
	if ways < 10 || none < 5 {
		t.Errorf("%d ways, %d without one", ways, none)
	}
}

// TestReachTwice: what is reached is reached from itself in no step. P19.8.
func TestReachTwice(t *testing.T) {
	for seed := range 10 {
		l, d := newLab(t, 300+seed, 1+seed%3)
		r, n := l.reach(l.any(d))
		again, more := l.reach(r)
		l.same("Reach of Reach", r, again)
		if more != 0 || n < 0 || n >= 1<<l.bits() {
			t.Errorf("%d steps, then %d", n, more)
		}
	}
}

// TestSameProperties: texts that say the same have the same set. P19.9.
func TestSameProperties(t *testing.T) {
	for seed := range 12 {
		l, d := newLab(t, 400+seed, 1+seed%3)
		p, q := l.any(d), l.any(d)
		for _, texts := range [][]string{
			{"EF p", "E[true U p]", " E [ true\nU((p)) ]", "(EF(p))", "!AG !p", "!!EF p"},
			{"AG p", "!EF !p", "!E[true U !p]", "(AG\t p)"},
			{"EX p", "!AX !p"}, {"EG p", "!AF !p"}, {"AF p", "A[true U p]", "!EG !p"},
			{"A[p U q]", "!(E[!q U (!p & !q)] | EG !q)"},
			{"E[p U q]", "q | p & EX E[p U q]"}, {"EG p", "p & EX EG p"},
			{"p -> q -> p", "p -> (q -> p)"}, {"p <-> q <-> p", "(p <-> q) <-> p", "q"}, {"p | q & p", "p | (q & p)", "p"},
			{"p -> q", "!p | q", "true -> (p -> q)", "!(p & !q)"}, {"p <-> q", "(p -> q) & (q -> p)", "!p <-> !q"},
			{"!p & q", "(!p) & q"}, {"EX p & q", "(EX p) & q"}, {"EX EF p | q", "(EX (EF p)) | q"},
			{"true", "p | !p", "p -> p", "p <-> p", "q -> true", "false -> q", "!false"}, {"false", "p & !p", "!true", "p & false", "true -> false"},
			{"p", "p & true", "p | false", "true & p", "false | p", "true -> p", "p <-> true", "!(p <-> false)", "p & p", "p | p", "!(p -> false)"},
		} {
			first := l.holds(texts[0], p, q)
			for _, text := range texts[1:] {
				l.same(strings.Join([]string{texts[0], text}, " and "), first, l.holds(text, p, q))
			}
		}
		for text, h := range map[string]int{"p": p, "EX p": l.pre(p), "E[p U q]": l.until(p, q), "EG q": l.always(q), "p & q": l.apply(api.OpAnd, p, q), "p -> q": l.apply(api.OpImp, p, q), "p <-> q": l.apply(api.OpIff, p, q)} {
			l.same(text, h, l.holds(text, p, q))
		}
	}
}

// TestSpacedTexts: brackets around each part, and blanks between all tokens, change nothing. P19.9.
func TestSpacedTexts(t *testing.T) {
	for seed := range 40 {
		l, d := newLab(t, 500+seed, 1+seed%2)
		text := anyProperty(d, []string{"p", "q"}, 3).text
		p, q := l.any(d), l.any(d)
		spaced := ""
		for rest := text; rest != ""; {
			if rest[0] == ' ' {
				rest = rest[1:]
				continue
			}
			word := tokenIn(rest)
			rest = rest[len(word):]
			spaced += word + []string{" ", "\n", "\r\t", "  "}[d.Below(4)]
			if word == "p" || word == "q" {
				spaced = spaced[:strings.LastIndex(spaced, word)] + "( (" + word + ") )"
			}
		}
		l.same(text+" and "+spaced, l.holds(text, p, q), l.holds("("+spaced+")", p, q))
	}
}
