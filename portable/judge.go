package portable

import "strata/api"

// judge gives up at the first word of which the numbers are wrong, or else at the first node that nothing goes to.
func (d draft) judge() {
	if d.levels.value > api.MaxVars {
		giveUp(d.levels.at)
	}
	if d.nodes.value != d.lines {
		giveUp(d.nodes.at)
	}
	a := &above{levels: d.levels.value, rows: map[int]row{}, met: make([]bool, d.lines)}
	for l := range d.each() {
		a.enter(l)
	}
	a.judgeRoot(d.root)
	a.seek(d)
}

// above is what the lines of a text say as far as they have been judged. (A text is not counted by the purse; what is kept of each of its nodes is one truth.)
type above struct {
	levels int
	rows   map[int]row // by level
	lines  int
	last   line
	met    []bool // by line: whether its node is the low or the high of another one, or the root
}

// row are the nodes of a level, which stand one behind the other.
type row struct {
	first int // the line of the one with id 0
	count int
}

// enter judges a line of a node.
func (a *above) enter(l line) {
	a.judgeSelf(l.self)
	a.judgeArc(l.low, l.self.says.level)
	a.judgeArc(l.end, l.self.says.level)
	if l.low.says == l.end.says || a.lines > 0 && a.last.self.says.level == l.self.says.level && !l.isBehind(a.last) {
		giveUp(l.end.at)
	}
	own, there := a.rows[l.self.says.level]
	if !there {
		own.first = a.lines
	}
	own.count++
	a.rows[l.self.says.level] = own
	a.lines++
	a.last = l
}

// judgeSelf gives up at a node that cannot stand behind those above it.
func (a *above) judgeSelf(w word) {
	p, last := w.says, a.last.self.says
	switch {
	case p.leaf != 0 || p.level >= a.levels:
	case a.lines > 0 && p.level == last.level && p.id == last.id+1:
		return
	case (a.lines == 0 || p.level < last.level) && p.id == 0:
		return
	}
	giveUp(w.at)
}

// judgeArc gives up at a low or high of a node of that level which is neither a leaf nor a deeper node that stands above.
func (a *above) judgeArc(w word, level int) {
	if w.says.leaf != 0 {
		return
	}
	r := a.rows[w.says.level]
	if w.says.level <= level || w.says.id >= r.count {
		giveUp(w.at)
	}
	a.met[r.first+w.says.id] = true
}

// isBehind tells whether the low and high of a line are behind those of another one.
func (l line) isBehind(m line) bool {
	low, was := l.low.says.pointer(), m.low.says.pointer()
	return low > was || low == was && l.end.says.pointer() > m.end.says.pointer()
}

// judgeRoot gives up at a root that is not the node of the last line; without nodes: that is no leaf.
func (a *above) judgeRoot(root word) {
	if a.lines == 0 && root.says.leaf == 0 || a.lines > 0 && root.says != a.last.self.says {
		giveUp(root.at)
	}
	if a.lines > 0 {
		a.met[a.lines-1] = true
	}
}

// seek gives up at the first line whose node nothing goes to.
func (a *above) seek(d draft) {
	i := 0
	for l := range d.each() {
		if !a.met[i] {
			giveUp(l.self.at)
		}
		i++
	}
}
