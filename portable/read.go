package portable

import (
	"iter"
	"math"
	"strings"

	"strata/api"
	"strata/nodes"
	"strata/recs"
)

// misfit is what the reading of a text that is none gives up with: the byte at which that is told.
type misfit int

func giveUp(at int) { panic(misfit(at)) }

// read is what a text says, or why it is none.
func read(text string) (d draft, fault api.Fault) {
	if len(text) > api.MaxText {
		return draft{}, api.Fault{Code: api.ErrLong}
	}
	defer func() {
		if why := recover(); why != nil {
			at, _ := why.(misfit)
			d, fault = draft{}, api.Fault{Code: api.ErrText, At: place(text, int(at))}
		}
	}()
	d = form(text)
	d.judge()
	return d, api.Fault{}
}

// place is the line and the column of a byte of a text.
func place(text string, at int) api.Pos {
	ahead := text[:at]
	return api.Pos{Line: 1 + strings.Count(ahead, "\n"), Col: at - strings.LastIndex(ahead, "\n")}
}

// draft is a text that has the form of a diagram's, whatever its numbers are. Its lines are read again where they are needed: none of them is kept.
type draft struct {
	text   string
	levels number
	nodes  number
	body   int // where the lines of nodes begin
	lines  int // how many of them there are
	root   word
}

// number is one that stands alone.
type number struct {
	at    int // its first byte
	value int
}

// word is a pointer as it stands in a text.
type word struct {
	at   int // its first byte
	says target
}

// target is what a pointer's word says: a leaf, or a level and an id, that there may not be.
type target struct {
	leaf      byte // its letter; 0: it is none
	level, id int
}

// pointer is that of a target that there is.
func (t target) pointer() api.Ptr {
	switch t.leaf {
	case 'F':
		return api.False
	case 'T':
		return api.True
	}
	p, _ := recs.Inner(t.level, t.id)
	return p
}

// Forms of the lines behind the head.
const (
	ofNode = iota
	ofRoot
)

// line is a line behind the head. That of the root has the word at its end alone.
type line struct {
	form           int
	self, low, end word
}

// form reads a text by its bytes.
func form(text string) draft {
	r := &reader{text: text}
	d := draft{text: text}
	r.want(title + levelsAre)
	d.levels = r.number()
	r.want("\n" + nodesAre)
	d.nodes = r.number()
	r.want("\n")
	d.body = r.at
	next := r.line()
	for ; next.form == ofNode; next = r.line() {
		d.lines++
	}
	d.root = next.end
	if r.at < len(text) {
		giveUp(r.at)
	}
	return d
}

// each are the lines of the nodes.
func (d draft) each() iter.Seq[line] {
	return func(yield func(line) bool) {
		r := &reader{d.text, d.body}
		for range d.lines {
			if !yield(r.line()) {
				return
			}
		}
	}
}

// build adds the nodes of a text that is one; the root.
func (d draft) build(b *nodes.Builder) (api.Ptr, api.Errno) {
	for l := range d.each() {
		if _, e := b.Add(l.self.says.level, l.low.says.pointer(), l.end.says.pointer()); e != api.OK {
			return 0, e
		}
	}
	return d.root.says.pointer(), api.OK
}

// reader goes over a text, byte by byte.
type reader struct {
	text string
	at   int // what stands ahead of it has been read
}

// is tells whether that byte stands here.
func (r *reader) is(b byte) bool { return r.at < len(r.text) && r.text[r.at] == b }

// want passes by what must stand here.
func (r *reader) want(words string) {
	for i := range len(words) {
		if !r.is(words[i]) {
			giveUp(r.at)
		}
		r.at++
	}
}

// number passes by the longest number that stands here. A digit that cannot be of it is not what is wanted behind it, and is told there.
func (r *reader) number() number {
	n := number{at: r.at}
	for ; r.at < len(r.text); r.at++ {
		digit := int(r.text[r.at]) - '0'
		needlessZero := n.value == 0 && r.at > n.at
		if digit < 0 || digit > 9 || needlessZero || n.value > (math.MaxInt-digit)/10 {
			break
		}
		n.value = 10*n.value + digit
	}
	if r.at == n.at {
		giveUp(r.at)
	}
	return n
}

// word passes by a pointer, and what must stand behind it.
func (r *reader) word(behind string) word {
	w := word{at: r.at}
	if r.is('F') || r.is('T') {
		w.says.leaf = r.text[r.at]
		r.at++
	} else {
		w.says.level = r.number().value
		r.want(":")
		w.says.id = r.number().value
	}
	r.want(behind)
	return w
}

// line passes by a line behind the head.
func (r *reader) line() line {
	var l line
	if r.is(rootIs[0]) {
		r.want(rootIs)
		l.form = ofRoot
	}
	switch l.form {
	case ofNode:
		l.self = r.word(" ")
		l.low = r.word(" ")
		fallthrough // it ends as the root's does
	case ofRoot:
		l.end = r.word("\n")
	}
	return l
}
