package reach

import "strata/api"

// What a part says. Those from sayJoined on speak of others.
const (
	sayConstant = iota // it holds in all states, or in none
	sayNamed           // in those of a set
	sayJoined          // where two others do under an operator
	sayEX
	sayEF
	sayEG
	sayEU // E[ .. U .. ]
)

// part is one question of a property: what it says, and of which others, by their numbers. Two that are the same are one part, wherever they stand.
type part struct {
	says          int
	n             int // of sayConstant: 0 or 1; of sayNamed: the place of the set; of sayJoined: the operator
	first, second int // of what speaks of one other: both that one
}

// plan are the parts of a property, each behind those that it speaks of.
type plan struct {
	parts   []part
	numbers map[part]int
	depths  []int // by part: how many stand within one another in it
	sets    []int // by place of a set: the first place at which the same one stands
}

// newPlan is one without parts, over sets of these files.
func newPlan(files []string) *plan {
	p := &plan{numbers: map[part]int{}}
	places := make(map[string]int, len(files))
	for place, file := range files {
		if _, there := places[file]; !there {
			places[file] = place
		}
		p.sets = append(p.sets, places[file])
	}
	return p
}

// number is that of a part, which is put behind the others if it is new.
func (p *plan) number(x part) int {
	if n, there := p.numbers[x]; there {
		return n
	}
	depth := 0
	if x.says >= sayJoined {
		depth = 1 + max(p.depths[x.first], p.depths[x.second])
	}
	p.numbers[x] = len(p.parts)
	p.parts = append(p.parts, x)
	p.depths = append(p.depths, depth)
	return len(p.parts) - 1
}

// of is the part that a tree is.
func (p *plan) of(t tree) int {
	var under []int
	for _, operand := range t.operands() {
		under = append(under, p.of(operand))
	}
	if t, is := t.(constant); is {
		return p.constant(t.value)
	}
	if t, is := t.(named); is {
		return p.number(part{says: sayNamed, n: p.sets[t.place]})
	}
	if t, is := t.(prefixed); is {
		return p.prefixed(t.prefix, under[0])
	}
	if t, is := t.(joined); is {
		return p.join(t.op, under[0], under[1])
	}
	return p.path(t.(path).all, under[0], under[1])
}

// prefixed is what a prefix says of a part.
func (p *plan) prefixed(prefix string, x int) int {
	switch prefix {
	case "EX":
		return p.number(part{says: sayEX, first: x, second: x})
	case "EF":
		return p.number(part{says: sayEF, first: x, second: x})
	case "EG":
		return p.number(part{says: sayEG, first: x, second: x})
	case "AX":
		return p.opposite(p.prefixed("EX", p.opposite(x)))
	case "AF":
		return p.opposite(p.prefixed("EG", p.opposite(x)))
	case "AG":
		return p.opposite(p.prefixed("EF", p.opposite(x)))
	}
	return p.opposite(x)
}

// path is E[x U y], or A[x U y].
func (p *plan) path(all bool, x, y int) int {
	if !all {
		return p.until(x, y)
	}
	not := p.opposite(y)
	misses := p.until(not, p.join(api.OpNor, x, y))
	return p.join(api.OpNor, misses, p.prefixed("EG", not))
}

func (p *plan) until(x, y int) int {
	if x == p.constant(true) {
		return p.prefixed("EF", y)
	}
	return p.number(part{says: sayEU, first: x, second: y})
}

func (p *plan) constant(v bool) int {
	if v {
		return p.number(part{says: sayConstant, n: 1})
	}
	return p.number(part{says: sayConstant})
}

// opposite is where a part does not hold.
func (p *plan) opposite(x int) int { return p.join(api.OpNotA, x, x) }

// join is two parts under an operator. Where that hangs on one of them at most, no operator is needed.
func (p *plan) join(op, x, y int) int {
	a, b := p.parts[x], p.parts[y]
	switch {
	case x == y:
		return p.alone(op&1, op>>3, x)
	case a.says == sayConstant:
		return p.alone(op>>(2*a.n)&1, op>>(2*a.n+1)&1, y)
	case b.says == sayConstant:
		return p.alone(op>>b.n&1, op>>(2+b.n)&1, x)
	}
	return p.number(part{sayJoined, op, x, y})
}

// alone is low where a part does not hold, and high where it does.
func (p *plan) alone(low, high, x int) int {
	a := p.parts[x]
	switch {
	case low == high:
		return p.constant(low == 1)
	case high == 1:
		return x
	case a.says == sayConstant:
		return p.constant(a.n == 0)
	case a.says == sayJoined && a.n == api.OpNotA:
		return a.first
	}
	return p.number(part{sayJoined, api.OpNotA, x, x})
}

// askers are, by part, how often others ask for it, of those that one needs.
func (p *plan) askers(root int) []int {
	many := make([]int, len(p.parts))
	many[root] = 1
	for n := root; n >= 0; n-- {
		if x := p.parts[n]; many[n] > 0 && x.says >= sayJoined {
			many[x.first]++
			many[x.second]++
		}
	}
	return many
}
