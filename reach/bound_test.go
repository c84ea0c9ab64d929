package reach_test

import (
	"fmt"
	"strings"
	"testing"

	"strata/api"
	"strata/bench"
	"strata/reach"
)

// counting is the formula of a counter's steps.
func counting(bits int) string {
	var all []string
	carry := "true"
	for i := range bits {
		all = append(all, fmt.Sprintf("(x%d <-> (x%d ^ (%s)))", 2*i+1, 2*i, carry))
		carry += fmt.Sprintf(" & x%d", 2*i)
	}
	return strings.Join(all, " & ")
}

// formula is the handle of one.
func (r *rig) formula(text string) int {
	r.Helper()
	h, f := r.e.Formula(text)
	if f != (api.Fault{}) {
		r.Fatalf("%s: %v", text, f)
	}
	return h
}

// state is the set of the state in which all bits are v.
func (r *rig) state(v bool) int {
	r.Helper()
	var lits []api.Lit
	for i := range r.bits() {
		lits = append(lits, api.Lit{Level: 2 * i, Value: v})
	}
	h, no := r.e.Cube(lits)
	if no != api.OK {
		r.Fatalf("Cube: %d", no)
	}
	return h
}

// asks is how many numbered calls a property needs, and how many blocks at most beyond those that are there.
func (r *rig) asks(steps int, names []string, sets []int, text string) (calls, blocks int) {
	r.Helper()
	x := r.again(room)
	was := x.d.Counts()
	if _, f := reach.Holds(x.e, steps, names, sets, text); f != (api.Fault{}) {
		r.Fatalf("%.200s: %v", text, f)
	}
	now := x.d.Counts()
	return now.Calls - was.Calls, now.Most - was.Used
}

// TestLongSearch: many rounds, of which no more is on the disk at a time than of few. P19.2 to P19.4.
func TestLongSearch(t *testing.T) {
	const few, many = 3, 7
	var most [2][3]int
	for i, bits := range []int{few, many} {
		r := begin(t, 1, options(2*bits, 1))
		steps, zero, ones := r.formula(counting(bits)), r.state(false), r.state(true)
		left, _ := r.e.Not(zero)
		all := 1 / float64(int(1)<<bits)
		for j, search := range []func(x *rig) (int, api.Errno){
			func(x *rig) (int, api.Errno) {
				h, n, no := reach.Reach(x.e, steps, zero)
				if n != 1<<bits-1 {
					t.Errorf("Reach: %d steps", n)
				}
				return h, no
			},
			func(x *rig) (int, api.Errno) { return reach.Until(x.e, steps, left, ones) },
			func(x *rig) (int, api.Errno) { return reach.Always(x.e, steps, left) },
		} {
			x := r.again(room)
			h, no := search(x)
			if no != api.OK {
				t.Fatalf("%d bits, search %d: %d", bits, j, no)
			}
			if part, _ := x.e.Density(h); part != []float64{1, 1 - all, 0}[j] {
				t.Errorf("%d bits, search %d: %v of all", bits, j, part)
			}
			most[i][j] = x.d.Counts().Most
		}
	}
	for j := range most[0] {
		if most[1][j] > 8*most[0][j] { // rounds are sixteen times as many, sets not three times as large
			t.Errorf("search %d: %d blocks of %d bits, %d of %d", j, most[0][j], few, most[1][j], many)
		}
	}
}

// TestLongWay: the sets of all rounds are on the disk, and little else, in any order. P19.5.
func TestLongWay(t *testing.T) {
	const bits = 7
	for _, order := range [][]int{nil, {13, 12, 11, 10, 9, 8, 7, 6, 5, 4, 3, 2, 1, 0}, {6, 7, 0, 1, 12, 13, 4, 5, 2, 3, 10, 11, 8, 9}} {
		r := begin(t, 1, options(2*bits, 1))
		steps, zero, ones := r.formula(counting(bits)), r.state(false), r.state(true)
		if order != nil {
			r.order(order...)
		}
		way, no := reach.Trace(r.e, steps, zero, ones)
		if no != api.OK || len(way) != 1<<bits {
			t.Fatalf("Trace: %d states, %d", len(way), no)
		}
		for n, s := range way {
			if written([][]bool{s}) != written([][]bool{lowFirst(bits, n)}) {
				t.Fatalf("Trace: state %d is %v", n, s)
			}
		}
		const rounds = (1<<bits - 1) * (bits + 1) // a set of one state has a node for each bit, and an end
		if c := r.d.Counts(); c.Most < rounds || c.Most > rounds+bench.BlocksIn(r.d.State())+250 {
			t.Errorf("order %v: %d blocks, the sets of the rounds are %d", order, c.Most, rounds)
		}
	}
}

// lowFirst is a number as the state of a counter.
func lowFirst(bits, n int) []bool {
	out := make([]bool, bits)
	for i := range out {
		out[i] = n>>i&1 == 1
	}
	return out
}

// TestAskedOnce: a part that stands in a property again is not looked for again; nor is what can be told without looking. P19.6.
func TestAskedOnce(t *testing.T) {
	const bits = 4
	r := begin(t, 1, options(2*bits, 1))
	steps, zero, ones := r.formula(counting(bits)), r.state(false), r.state(true)
	copied, _ := r.e.Copy(zero)
	calls := func(text string) int {
		n, _ := r.asks(steps, []string{"p", "q", "again", "copied"}, []int{zero, ones, zero, copied}, text)
		return n
	}
	once := calls("EF EX p")
	for _, text := range []string{"EF EX p & EF EX p", "!!EF EX p", "E[true U EX p]", "(EF EX p | false) & true", "EF EX p | (EF (EX p))", "!AG !EX p", "EF EX p <-> true", "true -> EF EX p", "EF EX p & EF EX again", "EF EX copied"} {
		if n := calls(text); n != once {
			t.Errorf("%s: %d calls, EF EX p: %d", text, n, once)
		}
	}
	for _, text := range []string{"EX EF EX p | EF EX p", "(EF EX p & q) | (EF EX p -> p)", "!(EX p) & EF EX p", "EF EX p & AG AX !p"} {
		if n := calls(text); n >= 3*once/2 {
			t.Errorf("%s: %d calls, EF EX p: %d", text, n, once)
		}
	}
	least := calls("true")
	for _, text := range []string{"p | true", "EF p & false", "AG EF p -> AG EF p", "!(AF q & !AF q) | true", "EF p <-> EF p"} {
		if n := calls(text); n != least {
			t.Errorf("%s: %d calls, true: %d", text, n, least)
		}
	}
}

// TestLongRows: what is joined, to the left, to the right and in pairs, waits on the disk in few files at a time. P19.6.
func TestLongRows(t *testing.T) {
	const bits, parts = 3, 128
	r := begin(t, 1, options(2*bits, 1))
	steps := r.putSteps(counter(bits))
	var names, row []string
	var sets []int
	one := 0
	for i := range parts {
		in := make(set, 1<<bits)
		for s := range in {
			in[s] = (2*i+77)>>s&1 == 1
		}
		names = append(names, fmt.Sprint("n", i))
		sets = append(sets, r.putSet(in))
		row = append(row, "EX "+names[i])
	}
	for i := 0; i < parts; i += 9 {
		_, blocks := r.asks(steps, names, sets, row[i])
		one = max(one, blocks)
	}
	pairs := row
	for len(pairs) > 1 {
		var next []string
		for i := 0; i < len(pairs); i += 2 {
			next = append(next, "("+pairs[i]+"|"+pairs[i+1]+")")
		}
		pairs = next
	}
	for _, text := range []string{strings.Join(row, "&"), strings.Join(row, "->"), strings.Join(row, "<->"), pairs[0]} {
		if _, blocks := r.asks(steps, names, sets, text); blocks > one+60 {
			t.Errorf("%.40s: %d blocks, of one part %d", text, blocks, one)
		}
	}
}

// TestNestedRows: operands may stand within one another by the thousand without a bracket. P19.6, G1.
func TestNestedRows(t *testing.T) {
	r := begin(t, 1, options(2, 1))
	steps := r.put(bench.Number(2, 6))
	sets := []int{r.putSet(set{true, false}), r.putSet(set{false, true})}
	for _, c := range []struct {
		sign, end string
		want      set
	}{{"&", "a", set{false, false}}, {"|", "b", set{true, true}}, {"->", "a", set{true, true}}, {"<->", "a", set{true, false}}} {
		text := strings.Repeat("a"+c.sign+"b"+c.sign, 3000) + c.end
		h, f := reach.Holds(r.e, steps, letters(2), sets, text)
		if f != (api.Fault{}) {
			t.Fatalf("%s: %v", c.sign, f)
		}
		want := r.putSet(c.want)
		if same, e := r.e.Equal(h, want); !same || e != api.OK {
			t.Errorf("a %s b ..: not %v", c.sign, c.want)
		}
	}
}

// TestManyVariables: as many bits as there may be. P19.1 to P19.6.
func TestManyVariables(t *testing.T) {
	const vars = 65536
	r := begin(t, 100, options(vars, 100))
	steps := r.formula("(x1 <-> !x0) & (x65535 <-> (x65534 ^ x0)) & !x101") // all other bits as they like
	set := r.formula("!x0 & !x65534 & x300")
	goal := r.formula("x65534 & x302")
	odd := r.formula("x65535")
	if _, e := reach.Post(r.e, steps, odd); e != api.ErrOdd {
		t.Errorf("Post: %d", e)
	}
	is := func(what string, h int, e api.Errno, text string) {
		t.Helper()
		if e != api.OK {
			t.Fatalf("%s: %d", what, e)
		}
		if same, e := r.e.Equal(h, r.formula(text)); !same || e != api.OK {
			t.Errorf("%s is not %s", what, text)
		}
	}
	h, e := reach.Post(r.e, steps, set)
	is("Post", h, e, "x0 & !x65534 & !x100")
	h, e = reach.Pre(r.e, steps, set)
	is("Pre", h, e, "x0 & x65534")
	h, n, e := reach.Reach(r.e, steps, set)
	is("Reach", h, e, "!x100 | !x0 & !x65534 & x300")
	if n != 4 {
		t.Errorf("Reach: %d steps", n)
	}
	h, f := reach.Holds(r.e, steps, []string{"p", "q"}, []int{set, goal}, "A[true U p] | EX EX q")
	is("Holds", h, f.Code, "x0 & !x65534 | !x0 & !x65534 | !x0 & !x65534 & x300")
	for range 2 { // and with bit 1 ahead of bit 0
		way, e := reach.Trace(r.e, steps, set, goal)
		if e != api.OK || len(way) != 3 || len(way[0]) != vars/2 {
			t.Fatalf("Trace: %d, %d", len(way), e)
		}
		for i, want := range [][]int{{150}, {0}, {151, 32767}} {
			for bit, v := range way[i] {
				if v != (bit == want[0] || bit == want[len(want)-1]) {
					t.Errorf("state %d: bit %d is %v", i, bit, v)
				}
			}
		}
		for level := range 2 {
			if no := r.e.Swap(level); no != api.OK {
				t.Fatalf("Swap: %d", no)
			}
		}
	}
}
