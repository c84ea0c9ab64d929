package build

import (
	"slices"

	"strata/api"
)

// join is what any number of parts are under an operator for which neither their order counts nor how they are bracketed. They are made one by one as long as it is not decided what comes of them.
func (s *site) join(op int, parts ...part) part {
	if len(parts) == 1 {
		return parts[0]
	}
	if s.deep {
		parts = slices.SortedStableFunc(slices.Values(parts), deepestFirst)
	}
	return part{1 + deepest(parts), func(to string) (string, api.Errno) {
		p := &pile{site: s, op: op}
		for _, x := range parts {
			if e := p.settle(); e != api.OK {
				return "", e
			}
			if p.decided() {
				break
			}
			if e := p.put(x); e != api.OK {
				return "", e
			}
		}
		if e := p.finish(to); e != api.OK {
			return "", e
		}
		return to, api.OK
	}}
}

// row are parts that are to be joined by one operator. They are kept apart as long as more of them come, so that a long row is joined at once and not again with each part.
type row struct {
	op    int
	parts []part
}

// alone is the operator of a row of one part, which is joined with nothing.
const alone = -1

func rowOf(p part) row { return row{alone, []part{p}} }

// partOf is a row as one part.
func (s *site) partOf(r row) part {
	if r.op == alone {
		return r.parts[0]
	}
	return s.join(r.op, r.parts...)
}

// joined is the row of two rows under an operator as join takes it. They are used up: their lists are its own.
func (s *site) joined(op int, a, b row) row {
	long, short := s.under(op, a), s.under(op, b)
	if len(long) < len(short) {
		long, short = short, long
	}
	return row{op, append(long, short...)}
}

// under are the parts that a row is in a row of that operator.
func (s *site) under(op int, r row) []part {
	if r.op == op {
		return r.parts
	}
	return []part{s.partOf(r)}
}
