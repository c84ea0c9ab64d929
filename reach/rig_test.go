package reach_test

import (
	"bytes"
	"fmt"
	"slices"
	"strings"
	"testing"

	"strata/api"
	"strata/bench"
	"strata/disk"
	"strata/engine"
	"strata/reach"
	"strata/recs"
	"strata/tape"
)

// room is so much that no disk here is full.
const room = 1 << 30

// rig is an engine on a disk, beside what each of its handles stands for, a function of variables.
type rig struct {
	*testing.T
	d *disk.Disk
	e *engine.Engine
	o api.Options
	f map[int][]bool // by handle
}

// options are such that nothing is refused for them.
func options(vars, k int) api.Options { return api.Options{Vars: vars, Budget: 64 * k, Ids: 1 << 40} }

// begin is an engine on a new disk.
func begin(t *testing.T, k int, o api.Options) *rig {
	t.Helper()
	d, e := disk.New(api.Setup{Block: 32 * (k + 1), Blocks: room})
	if e != api.OK {
		t.Fatalf("disk.New: %d", e)
	}
	x, e := engine.Open(d, o)
	if e != api.OK {
		t.Fatalf("Open: %d", e)
	}
	return &rig{t, d, x, o, map[int][]bool{}}
}

// again is an engine on another disk that holds the same.
func (r *rig) again(blocks int, troubles ...api.Trouble) *rig {
	r.Helper()
	return r.on(r.d.State(), blocks, troubles...)
}

// on is an engine on a disk that holds that.
func (r *rig) on(st api.State, blocks int, troubles ...api.Trouble) *rig {
	r.Helper()
	d, e := disk.Mount(st, api.Setup{Block: st.Block, Blocks: blocks, Troubles: troubles})
	if e != api.OK {
		r.Fatalf("Mount: %d", e)
	}
	x, e := engine.Open(d, r.o)
	if e != api.OK {
		r.Fatalf("Open: %d", e)
	}
	f := map[int][]bool{}
	for h, table := range r.f {
		f[h] = table
	}
	return &rig{r.T, d, x, r.o, f}
}

// vars is how many variables there are.
func (r *rig) vars() int { return r.o.Vars }

func (r *rig) bits() int { return r.o.Vars / 2 }

// records are those of a function's file in the present order.
func (r *rig) records(f []bool) []api.Rec {
	order := r.e.Order()
	n := len(order)
	return bench.Canon(n, bench.TableOf(n, func(byLevel int) bool {
		x := 0
		for l, v := range order {
			x = bench.With(n, x, v, bench.Bit(n, byLevel, l))
		}
		return f[x]
	}))
}

// laid writes a sealed tape.
func laid(k *tape.Desk, name string, kind int, list []api.Rec) api.Errno {
	w, no := k.Write(name, kind)
	if no != api.OK {
		return no
	}
	for _, rec := range list {
		w.Put(rec)
	}
	return w.Close()
}

// put is a handle for a function.
func (r *rig) put(f []bool) int {
	r.Helper()
	h, no := r.e.Step(func(k *tape.Desk, out string) api.Errno { return laid(k, out, api.KindNodes, r.records(f)) })
	if no != api.OK {
		r.Fatalf("put: %d", no)
	}
	r.f[h] = f
	return h
}

func (r *rig) putSet(in set) int {
	r.Helper()
	return r.put(functionOf(r.bits(), in))
}

func (r *rig) putSteps(leads func(s, t int) bool) int {
	r.Helper()
	return r.put(stepsOf(r.bits(), leads))
}

// order takes an order.
func (r *rig) order(list ...int) {
	r.Helper()
	if no := r.e.Reorder(list); no != api.OK {
		r.Fatalf("Reorder(%v): %d", list, no)
	}
}

// handles are the live ones.
func (r *rig) handles() []int {
	var list []int
	for h := range r.f {
		list = append(list, h)
	}
	slices.Sort(list)
	return list
}

// rests fails the test unless the engine and its disk are at rest, and each handle's file is the canonical one of its function: nothing else is there, no record is out. W2, W5, G10.
func (r *rig) rests(what any) {
	r.Helper()
	if got := r.e.Handles(); !slices.Equal(got, r.handles()) {
		r.Fatalf("%v: handles %v, want %v", what, got, r.handles())
	}
	files := map[string][]api.Rec{}
	for h, f := range r.f {
		name, no := r.e.File(h)
		if no != api.OK {
			r.Fatalf("%v: File(%d): %d", what, h, no)
		}
		files[name] = r.records(f)
	}
	catalogs := 0
	for _, f := range r.d.State().Files {
		list, there := files[f.Name]
		if strings.HasPrefix(f.Name, "cat-") {
			catalogs++
		} else if !there || !f.Sealed || !slices.EqualFunc(f.Blocks, blocksOf(r.T, list, r.d.Block()), bytes.Equal) {
			r.Fatalf("%v: the file %q, sealed %v, is not that of its function", what, f.Name, f.Sealed)
		}
	}
	if n := len(r.d.Names()); catalogs != 1 || n != 1+len(files) {
		r.Fatalf("%v: the disk holds %v", what, r.d.Names())
	}
	no := r.e.Look(func(k *tape.Desk) api.Errno {
		if used := k.Purse().Used(); used != 0 {
			r.Fatalf("%v: %d records are out", what, used)
		}
		return api.OK
	})
	if peak := r.e.Peak(); no != api.OK || peak > r.o.Budget {
		r.Fatalf("%v: Look: %d, Peak %d", what, no, peak)
	}
}

// blocksOf are those of a node file.
func blocksOf(t *testing.T, list []api.Rec, block int) [][]byte {
	t.Helper()
	var out [][]byte
	for piece := range slices.Chunk(list, block/32-1) {
		b, e := recs.Encode(api.KindNodes, len(out), piece, block)
		if e != api.OK {
			t.Fatalf("Encode: %d", e)
		}
		out = append(out, b)
	}
	return out
}

// answer is what a call answers, its handle aside.
type answer struct {
	fault api.Fault
	made  bool // a handle
	steps int  // of Reach
	way   string
}

func refused(code api.Errno) answer { return answer{fault: api.Fault{Code: code}} }

// written is a way as a text.
func written(way [][]bool) string { return fmt.Sprint(way) }

// act is a call, and what it must answer.
type act struct {
	what  string
	steps int
	sets  []int
	fault api.Fault // of a text
	do    func(e *engine.Engine) (answer, int)
	say   func(g graph, sets []set) (answer, set) // of right arguments
}

// says is what an act must answer, and the function of the handle that it makes. Steps 1 to 8 of the chapter, as far as right objects go.
func (r *rig) says(a act) (answer, []bool) {
	for _, h := range append([]int{a.steps}, a.sets...) {
		if r.f[h] == nil {
			return refused(api.ErrHandle), nil
		}
	}
	if r.vars()%2 == 1 {
		return refused(api.ErrOdd), nil
	}
	if a.fault != (api.Fault{}) {
		return answer{fault: a.fault}, nil
	}
	var sets []set
	for _, h := range a.sets {
		in, is := setOf(r.bits(), r.f[h])
		if !is {
			return refused(api.ErrOdd), nil
		}
		sets = append(sets, in)
	}
	want, in := a.say(graphOf(r.bits(), r.f[a.steps]), sets)
	if want.fault != (api.Fault{}) || !want.made {
		return want, nil
	}
	f := functionOf(r.bits(), in)
	list := r.records(f)
	for l := range r.vars() {
		if bench.Width(list, l) > r.o.Ids {
			return refused(api.ErrIds), nil
		}
	}
	return want, f
}

// does makes a call where nothing befalls it, and looks at all that is promised of it. P19.1 to P19.7.
func (r *rig) does(a act) answer {
	r.Helper()
	want, f := r.says(a)
	next := 1
	if all := r.handles(); len(all) > 0 {
		next = 1 + all[len(all)-1]
	}
	got, h := a.do(r.e)
	if got != want || got.made && h < next || !got.made && h != 0 {
		r.Fatalf("%s in the order %v: %+v, handle %d, want %+v", a.what, r.e.Order(), got, h, want)
	}
	if got.made {
		r.f[h] = f
	}
	r.rests(a.what)
	return got
}

// free takes a handle away.
func (r *rig) free(h int) {
	r.Helper()
	if no := r.e.Free(h); no != api.OK {
		r.Fatalf("Free(%d): %d", h, no)
	}
	delete(r.f, h)
}

// does and forgets: what was made is freed again.
func (r *rig) tries(a act) answer {
	r.Helper()
	got := r.does(a)
	if got.made {
		all := r.handles()
		r.free(all[len(all)-1])
	}
	return got
}

// made is the answer of a call that makes a set.
func made(h int, no api.Errno) (answer, int) {
	return answer{fault: api.Fault{Code: no}, made: no == api.OK}, h
}

func post(steps, in int) act {
	return act{fmt.Sprintf("Post(%d, %d)", steps, in), steps, []int{in}, api.Fault{},
		func(e *engine.Engine) (answer, int) { return made(reach.Post(e, steps, in)) },
		func(g graph, sets []set) (answer, set) { return answer{made: true}, g.post(sets[0]) }}
}

func pre(steps, in int) act {
	return act{fmt.Sprintf("Pre(%d, %d)", steps, in), steps, []int{in}, api.Fault{},
		func(e *engine.Engine) (answer, int) { return made(reach.Pre(e, steps, in)) },
		func(g graph, sets []set) (answer, set) { return answer{made: true}, g.pre(sets[0]) }}
}

func reached(steps, in int) act {
	return act{fmt.Sprintf("Reach(%d, %d)", steps, in), steps, []int{in}, api.Fault{},
		func(e *engine.Engine) (answer, int) {
			h, n, no := reach.Reach(e, steps, in)
			return answer{fault: api.Fault{Code: no}, made: no == api.OK, steps: n}, h
		},
		func(g graph, sets []set) (answer, set) {
			all, n := g.reach(sets[0])
			return answer{made: true, steps: n}, all
		}}
}

func until(steps, while, end int) act {
	return act{fmt.Sprintf("Until(%d, %d, %d)", steps, while, end), steps, []int{while, end}, api.Fault{},
		func(e *engine.Engine) (answer, int) { return made(reach.Until(e, steps, while, end)) },
		func(g graph, sets []set) (answer, set) { return answer{made: true}, g.until(sets[0], sets[1]) }}
}

func always(steps, in int) act {
	return act{fmt.Sprintf("Always(%d, %d)", steps, in), steps, []int{in}, api.Fault{},
		func(e *engine.Engine) (answer, int) { return made(reach.Always(e, steps, in)) },
		func(g graph, sets []set) (answer, set) { return answer{made: true}, g.always(sets[0]) }}
}

func trace(steps, from, into int) act {
	return act{fmt.Sprintf("Trace(%d, %d, %d)", steps, from, into), steps, []int{from, into}, api.Fault{},
		func(e *engine.Engine) (answer, int) {
			way, no := reach.Trace(e, steps, from, into)
			if len(way) == 0 {
				return refused(no), 0
			}
			return answer{fault: api.Fault{Code: no}, way: written(way)}, 0
		},
		func(g graph, sets []set) (answer, set) {
			var way [][]bool
			for _, s := range g.trace(sets[0], sets[1]) {
				way = append(way, bitsOf(g.bits, s))
			}
			if way == nil {
				return refused(api.ErrLeaf), nil
			}
			return answer{way: written(way)}, nil
		}}
}

// holds asks for a property over names a, b, .. of sets.
func holds(steps int, sets []int, p property) act {
	return act{fmt.Sprintf("Holds(%d, %v, %q)", steps, sets, p.text), steps, sets, api.Fault{},
		func(e *engine.Engine) (answer, int) {
			h, f := reach.Holds(e, steps, letters(len(sets)), sets, p.text)
			return answer{fault: f, made: f == api.Fault{}}, h
		},
		func(g graph, sets []set) (answer, set) { return answer{made: true}, p.holds(g, sets) }}
}

// letters are the names a, b, ..
func letters(n int) []string {
	var out []string
	for i := range n {
		out = append(out, string(rune('a'+i%26))+strings.Repeat("_", i/26))
	}
	return out
}

// wrongText asks for a text that is no property.
func wrongText(steps int, sets []int, text string, code api.Errno, line, col int) act {
	a := holds(steps, sets, property{text: text})
	a.fault = api.Fault{Code: code, At: api.Pos{Line: line, Col: col}}
	return a
}

// everyCall are calls of each kind over these.
func everyCall(steps, a, b int) []act {
	p := joined(prefixed("AG", prefixed("EF", named("a", 0))), signs()[2], path("A", named("b", 1), prefixed("EX", named("a", 0))))
	return []act{post(steps, a), pre(steps, b), reached(steps, a), until(steps, a, b), always(steps, b), trace(steps, a, b), holds(steps, []int{a, b}, p)}
}
