package circuit

import (
	"strings"

	"strata/api"
)

// line is what a line of the text says. Its A, B and C are words until all names are known; an output has no Kind, and its line for A.
type line struct {
	api.Gate
	uses []word
}

// reader reads a text line by line. Only its first fault counts, and what it reads behind that does not.
type reader struct {
	text    string
	readers map[string]func(*reader) // by the first words that the next line may have; nil behind the end
	left    []word                   // words of the line at hand that have not been taken
	last    word                     // the one that has been taken last
	lines   []line
	outs    int            // outputs among them
	places  map[string]int // by name: the place of the line that has it
	names   []int          // by place: the first byte of the line's name
	circuit api.Circuit
	fault   api.Fault
}

// read makes the circuit of a text.
func read(text string) (api.Circuit, api.Fault) {
	r := reader{text: text, readers: map[string]func(*reader){"circuit": (*reader).head}, places: map[string]int{}}
	for _, step := range [...]func(*reader){(*reader).readLines, (*reader).connect, (*reader).refuseCircle} {
		step(&r)
		if r.fault.Code != api.OK {
			return api.Circuit{}, r.fault
		}
	}
	return r.circuit, api.Fault{}
}

// refuse tells a fault at a byte of the text, if it is the first one.
func (r *reader) refuse(code api.Errno, at int) {
	if r.fault.Code == api.OK {
		r.fault = api.Fault{Code: code, At: place(r.text, at)}
	}
}

func (r *reader) readLines() {
	for at := 0; at < len(r.text) && r.fault.Code == api.OK; {
		text, _, _ := strings.Cut(r.text[at:], "\n")
		r.readLine(words(text, at))
		at += len(text) + 1
	}
	if r.readers != nil {
		r.refuse(api.ErrLine, len(r.text))
	}
}

func (r *reader) readLine(list []word) {
	if len(list) == 0 {
		return
	}
	r.left = list
	first := r.take()
	read, known := r.readers[first.text]
	if !known {
		r.refuse(api.ErrLine, first.at)
		return
	}
	read(r)
	if len(r.left) > 0 {
		r.refuse(api.ErrLine, r.left[0].at)
	}
}

// take goes over the next word of the line; where it is missing, the line's last one is the one that has been taken last.
func (r *reader) take() word {
	if len(r.left) == 0 {
		r.refuse(api.ErrLine, r.last.at+len(r.last.text))
		return word{}
	}
	r.last, r.left = r.left[0], r.left[1:]
	return r.last
}

// head reads: circuit NAME.
func (r *reader) head() {
	r.circuit.Name = strings.Clone(r.name().text) // cut out it would keep the whole text
	r.readers = map[string]func(*reader){
		"input":  (*reader).input,
		"gate":   (*reader).gate,
		"mux":    (*reader).mux,
		"latch":  (*reader).latch,
		"output": (*reader).output,
		"end":    (*reader).end,
	}
}

// input reads: input NAME.
func (r *reader) input() { r.begin(api.GaInput) }

// gate reads: gate NAME OP A B.
func (r *reader) gate() {
	l := r.begin(api.GaGate)
	l.Op = r.op(operator)
	l.uses = r.namesOf(2)
}

// mux reads: mux NAME A B C.
func (r *reader) mux() {
	l := r.begin(api.GaMux)
	l.uses = r.namesOf(3)
}

// latch reads: latch NAME FIRST A.
func (r *reader) latch() {
	l := r.begin(api.GaLatch)
	l.Op = r.op(firstValue)
	l.uses = r.namesOf(1)
}

// output reads: output A.
func (r *reader) output() {
	if r.outs == api.MaxGates {
		r.refuse(api.ErrMany, r.last.at)
	}
	r.outs++
	r.lines = append(r.lines, line{uses: r.namesOf(1)})
}

// end reads: end. No line may follow.
func (r *reader) end() { r.readers = nil }

// begin begins a line of the circuit with its name.
func (r *reader) begin(kind int) *line {
	place := len(r.names)
	if place == api.MaxGates {
		r.refuse(api.ErrMany, r.last.at)
	}
	name := r.name()
	if _, twice := r.places[name.text]; twice {
		r.refuse(api.ErrTwice, name.at)
	}
	r.places[name.text] = place
	r.names = append(r.names, name.at)
	r.lines = append(r.lines, line{Gate: api.Gate{Kind: kind, Name: strings.Clone(name.text)}})
	return &r.lines[len(r.lines)-1]
}

// name takes a name.
func (r *reader) name() word {
	w := r.take()
	if !isName(w.text) {
		r.refuse(api.ErrLine, w.at)
	}
	return w
}

// namesOf takes the names of so many lines.
func (r *reader) namesOf(lines int) []word {
	list := make([]word, lines)
	for i := range list {
		list[i] = r.name()
	}
	return list
}

// op takes a word that stands for an Op.
func (r *reader) op(of func(string) int) int {
	w := r.take()
	op := of(w.text)
	if op == none {
		r.refuse(api.ErrLine, w.at)
	}
	return op
}

// operator is the Op that a word means to a gate.
func operator(word string) int {
	for op, name := range operators {
		if name == word {
			return op
		}
	}
	return none
}

// firstValue is the Op that a word means to a latch.
func firstValue(word string) int {
	switch word {
	case "0":
		return 0
	case "1":
		return 1
	}
	return none
}

// connect puts places for the names of lines.
func (r *reader) connect() {
	for _, l := range r.lines {
		var places [3]int
		for i, w := range l.uses {
			place, known := r.places[w.text]
			if !known {
				r.refuse(api.ErrUndef, w.at)
				return
			}
			places[i] = place
		}
		if l.Kind == 0 {
			r.circuit.Outs = append(r.circuit.Outs, places[0])
			continue
		}
		l.A, l.B, l.C = places[0], places[1], places[2]
		r.circuit.Gates = append(r.circuit.Gates, l.Gate)
	}
}

func (r *reader) refuseCircle() {
	if place := firstInCircle(r.circuit.Gates); place != none {
		r.refuse(api.ErrCircle, r.names[place])
	}
}
