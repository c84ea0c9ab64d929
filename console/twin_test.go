package console_test

import (
	"fmt"
	"math/big"
	"regexp"
	"strconv"
	"strings"

	"strata/api"
	"strata/disk"
	"strata/engine"
	"strata/reach"
)

// twin is what a console must be beside the text: the chapter's table by direct calls.
type twin struct {
	setup *api.Setup
	d     *disk.Disk
	e     *engine.Engine
}

// When a line is obeyed: the table's second column.
const (
	noStore  = "no store"
	aStore   = "a store"
	aDisk    = "a disk"
	noEngine = "a disk, no engine"
	anEngine = "an engine"
)

// row is a line of the chapter's table: its form in the chapter's words, its time, and what it does with the words behind the first.
type row struct {
	form string
	when string
	do   func(w *twin, a []string) (string, api.Errno)
}

func (w *twin) isTime(when string) bool {
	return map[string]bool{noStore: w.setup == nil, aStore: w.setup != nil, aDisk: w.d != nil, noEngine: w.d != nil && w.e == nil, anEngine: w.e != nil}[when]
}

func num(s string) int {
	n, err := strconv.ParseInt(s, 10, 64)
	if err != nil {
		panic(err)
	}
	return int(n)
}

func nums(list []string) []int {
	var out []int
	for _, s := range list {
		out = append(out, num(s))
	}
	return out
}

func lits(list []string) []api.Lit {
	var out []api.Lit
	for _, s := range list {
		v, b, _ := strings.Cut(s, "=")
		out = append(out, api.Lit{Level: num(v), Value: b == "1"})
	}
	return out
}

// listed is a list of numbers as an answer.
func listed(list []int) string {
	if len(list) == 0 {
		return "none"
	}
	return strings.Trim(fmt.Sprint(list), "[]")
}

func truthsOf(bits []bool) string {
	if len(bits) == 0 {
		return "-"
	}
	return strings.NewReplacer("[", "", "]", "", " ", "", "true", "1", "false", "0").Replace(fmt.Sprint(bits))
}

// told is an answer, or a refusal alone.
func told(e api.Errno, format string, a ...any) (string, api.Errno) {
	if e != api.OK {
		return "", e
	}
	return fmt.Sprintf(format, a...), e
}

// handle is the row of a call that makes one.
func handle(form string, do func(e *engine.Engine, a []string) (int, api.Errno)) row {
	return row{form, anEngine, func(w *twin, a []string) (string, api.Errno) {
		h, e := do(w.e, a)
		return told(e, "%d", h)
	}}
}

// textHandle is that of one whose refusal has a place.
func textHandle(form string, do func(e *engine.Engine, a []string) (int, api.Fault)) row {
	return handle(form, func(e *engine.Engine, a []string) (int, api.Errno) {
		h, f := do(e, a)
		return h, f.Code
	})
}

// quiet is the row of a call that answers nothing.
func quiet(form, when string, do func(w *twin, a []string) api.Errno) row {
	return row{form, when, func(w *twin, a []string) (string, api.Errno) { return "", do(w, a) }}
}

// said is the row of a call that answers something else.
func said[A any](form string, do func(e *engine.Engine, a []string) (A, api.Errno), write func(A) string) row {
	return row{form, anEngine, func(w *twin, a []string) (string, api.Errno) {
		x, e := do(w.e, a)
		if e != api.OK {
			return "", e
		}
		return write(x), e
	}}
}

func rows() []row {
	return append(worldRows(), append(makeRows(), append(askRows(), reachRows()...)...)...)
}

func worldRows() []row {
	return []row{
		quiet("disk NUM NUM", noStore, func(w *twin, a []string) api.Errno {
			s := api.Setup{Block: num(a[0]), Blocks: num(a[1])}
			_, e := disk.New(s)
			if e == api.OK {
				w.setup = &s
			}
			return e
		}),
		quiet("fault NUM", aStore, func(w *twin, a []string) api.Errno {
			w.setup.Troubles = append(w.setup.Troubles, api.Trouble{At: num(a[0]), Kind: api.TrFault})
			return api.OK
		}),
		quiet("cut NUM INT", aStore, func(w *twin, a []string) api.Errno {
			w.setup.Troubles = append(w.setup.Troubles, api.Trouble{At: num(a[0]), Kind: api.TrCut, Bytes: num(a[1])})
			return api.OK
		}),
		quiet("power", aStore, func(w *twin, a []string) api.Errno {
			var e api.Errno
			w.d, e = disk.Mount(w.state(), *w.setup)
			w.e, w.setup.Troubles = nil, nil
			return e
		}),
		quiet("open NUM NUM NUM", noEngine, func(w *twin, a []string) api.Errno {
			var e api.Errno
			w.e, e = engine.Open(w.d, api.Options{Vars: num(a[0]), Budget: num(a[1]), Ids: num(a[2])})
			return e
		}),
		{"counts", aDisk, func(w *twin, a []string) (string, api.Errno) {
			n := w.d.Counts()
			return told(api.OK, "calls %d reads %d appends %d faults %d full %d used %d most %d", n.Calls, n.Reads, n.Appends, n.Faults, n.Full, n.Used, n.Most)
		}},
		{"files", aDisk, func(w *twin, a []string) (string, api.Errno) {
			var list []string
			for _, f := range w.d.State().Files {
				list = append(list, fmt.Sprintf("%s %d", f.Name, len(f.Blocks)))
			}
			if len(list) == 0 {
				list = []string{"none"}
			}
			return strings.Join(list, ", "), api.OK
		}},
		quiet("spoil WORD NUM NUM", aDisk, func(w *twin, a []string) api.Errno { return w.d.Spoil(a[0], num(a[1]), num(a[2])) }),
	}
}

func (w *twin) state() api.State {
	switch {
	case w.d != nil:
		return w.d.State()
	case w.setup != nil:
		return api.State{Block: w.setup.Block}
	}
	return api.State{}
}

// operatorNames by their numbers.
const operatorNames = "false nor less nota diff notb xor nand and iff b imp a rev or true"

func makeRows() []row {
	type E = *engine.Engine
	return []row{
		handle("const BIT", func(e E, a []string) (int, api.Errno) { return e.Const(a[0] == "1") }),
		handle("var V", func(e E, a []string) (int, api.Errno) { return e.Var(num(a[0])) }),
		handle("cube LIT ..", func(e E, a []string) (int, api.Errno) { return e.Cube(lits(a)) }),
		textHandle("formula ANY", func(e E, a []string) (int, api.Fault) { return e.Formula(a[0]) }),
		textHandle("cnf REST", func(e E, a []string) (int, api.Fault) { return e.Cnf(strings.Join(strings.Split(a[0], "/"), "\n")) }),
		textHandle("load REST", func(e E, a []string) (int, api.Fault) {
			return e.Load(strings.NewReplacer("/", "\n", "~", " ").Replace(a[0]))
		}),
		handle("not H", func(e E, a []string) (int, api.Errno) { return e.Not(num(a[0])) }),
		handle("apply OP H H", func(e E, a []string) (int, api.Errno) {
			op := -1
			for i, name := range strings.Fields(operatorNames) {
				if name == a[0] {
					op = i
				}
			}
			return e.Apply(op, num(a[1]), num(a[2]))
		}),
		handle("ite H H H", func(e E, a []string) (int, api.Errno) { return e.Ite(num(a[0]), num(a[1]), num(a[2])) }),
		handle("restrict H LIT ..", func(e E, a []string) (int, api.Errno) { return e.Restrict(num(a[0]), lits(a[1:])) }),
		handle("exists H V ..", func(e E, a []string) (int, api.Errno) { return e.Exists(num(a[0]), nums(a[1:])) }),
		handle("forall H V ..", func(e E, a []string) (int, api.Errno) { return e.Forall(num(a[0]), nums(a[1:])) }),
		handle("compose H V H", func(e E, a []string) (int, api.Errno) { return e.Compose(num(a[0]), num(a[1]), num(a[2])) }),
		handle("rename H V ..", func(e E, a []string) (int, api.Errno) { return e.Rename(num(a[0]), nums(a[1:])) }),
		handle("copy H", func(e E, a []string) (int, api.Errno) { return e.Copy(num(a[0])) }),
		quiet("free H", anEngine, func(w *twin, a []string) api.Errno { return w.e.Free(num(a[0])) }),
		quiet("swap L", anEngine, func(w *twin, a []string) api.Errno { return w.e.Swap(num(a[0])) }),
		quiet("order V ..", anEngine, func(w *twin, a []string) api.Errno { return w.e.Reorder(nums(a)) }),
		quiet("sift", anEngine, func(w *twin, a []string) api.Errno { return w.e.Sift() }),
	}
}

func askRows() []row {
	type E = *engine.Engine
	number := func(n int) string { return strconv.Itoa(n) }
	return []row{
		said("levels", func(e E, a []string) ([]int, api.Errno) { return e.Order(), api.OK }, listed),
		said("handles", func(e E, a []string) ([]int, api.Errno) { return e.Handles(), api.OK }, listed),
		said("count H", func(e E, a []string) (*big.Int, api.Errno) { return e.Count(num(a[0])) }, func(n *big.Int) string { return n.Text(10) }),
		said("nodes H", func(e E, a []string) (int, api.Errno) { return e.Nodes(num(a[0])) }, number),
		said("support H", func(e E, a []string) ([]int, api.Errno) { return e.Support(num(a[0])) }, listed),
		said("equal H H", func(e E, a []string) (bool, api.Errno) { return e.Equal(num(a[0]), num(a[1])) }, func(v bool) string {
			return map[bool]string{true: "yes", false: "no"}[v]
		}),
		said("file H", func(e E, a []string) (string, api.Errno) { return e.File(num(a[0])) }, func(s string) string { return s }),
		said("density H", func(e E, a []string) (float64, api.Errno) { return e.Density(num(a[0])) }, func(x float64) string { return strconv.FormatFloat(x, 'g', -1, 64) }),
		said("first H", func(e E, a []string) ([]bool, api.Errno) { return e.First(num(a[0])) }, truthsOf),
		said("eval H BITS", func(e E, a []string) (bool, api.Errno) {
			var bits []bool
			for _, b := range strings.Trim(a[1], "-") {
				bits = append(bits, b == '1')
			}
			return e.Eval(num(a[0]), bits)
		}, func(v bool) string { return truthsOf([]bool{v}) }),
		said("dump H", func(e E, a []string) (string, api.Errno) { return e.Dump(num(a[0])) }, func(s string) string { return strings.Join(strings.Split(s, "\n"), "/") }),
		said("peak", func(e E, a []string) (int, api.Errno) { return e.Peak(), api.OK }, number),
	}
}

func reachRows() []row {
	type E = *engine.Engine
	return []row{
		handle("post H H", func(e E, a []string) (int, api.Errno) { return reach.Post(e, num(a[0]), num(a[1])) }),
		handle("pre H H", func(e E, a []string) (int, api.Errno) { return reach.Pre(e, num(a[0]), num(a[1])) }),
		{"reach H H", anEngine, func(w *twin, a []string) (string, api.Errno) {
			h, steps, e := reach.Reach(w.e, num(a[0]), num(a[1]))
			return told(e, "%d %d", h, steps)
		}},
		handle("until H H H", func(e E, a []string) (int, api.Errno) { return reach.Until(e, num(a[0]), num(a[1]), num(a[2])) }),
		handle("always H H", func(e E, a []string) (int, api.Errno) { return reach.Always(e, num(a[0]), num(a[1])) }),
		said("trace H H H", func(e E, a []string) ([][]bool, api.Errno) { return reach.Trace(e, num(a[0]), num(a[1]), num(a[2])) }, func(way [][]bool) string {
			var list []string
			for _, s := range way {
				list = append(list, truthsOf(s))
			}
			return strings.Join(list, " ")
		}),
		textHandle("holds H NAME=H .. : ANY", func(e E, a []string) (int, api.Fault) {
			var names []string
			var sets []int
			for _, s := range a[1 : len(a)-2] {
				name, h, _ := strings.Cut(s, "=")
				names, sets = append(names, name), append(sets, num(h))
			}
			return reach.Holds(e, num(a[0]), names, sets, a[len(a)-1])
		}),
	}
}

// kinds are the words of the chapter's forms. A REST is of the bytes 32 to 126; that of formula and holds, ANY, of all.
var kinds = map[string]string{
	"NUM": "(?:0|[1-9][0-9]{0,17})", "H": "(?:0|[1-9][0-9]{0,17})", "V": "(?:0|[1-9][0-9]{0,17})", "L": "(?:0|[1-9][0-9]{0,17})",
	"INT": "(?:0|-?[1-9][0-9]{0,17})", "BIT": "[01]", "LIT": "(?:0|[1-9][0-9]{0,17})=[01]", "BITS": "(?:-|[01]+)", "WORD": "[!-~]+", ":": ":",
	"NAME=H": "[a-z]{1,32}=(?:0|[1-9][0-9]{0,17})", "OP": "(?:" + strings.ReplaceAll(operatorNames, " ", "|") + ")",
	"REST": "[!-~](?:[ -~]*[!-~])?", "ANY": "[^ ](?:.*[^ ])?",
}

// grammar is what the lines of a row are, and the rest of the line if its form has one.
type grammar struct {
	row
	line *regexp.Regexp
}

func grammars() []grammar {
	var out []grammar
	for _, r := range rows() {
		text := "(?s)^ *"
		words := strings.Fields(r.form)
		for i, word := range words {
			kind := kinds[word]
			switch {
			case word == "..":
				continue
			case i == 0:
				text += word
			case i+1 < len(words) && words[i+1] == "..":
				text += "(?: +" + kind + ")*"
			case word == "REST" || word == "ANY":
				text += " +(" + kind + ")"
			default:
				text += " +" + kind
			}
		}
		out = append(out, grammar{r, regexp.MustCompile(text + ` *\z`)})
	}
	return out
}

// args are the words behind the first one; the rest of a line is one.
func (g grammar) args(line string) []string {
	rest := g.line.FindStringSubmatch(line)[1:]
	if len(rest) > 0 {
		line = strings.TrimRight(line, " ")
		line = line[:len(line)-len(rest[0])]
	}
	words := strings.FieldsFunc(line, func(r rune) bool { return r == ' ' })
	return append(words[1:], rest...)
}

// idle: a line that does nothing.
var idle = regexp.MustCompile(`(?s)^ *(?:#.*)?\z`)

// do is what Do must answer. P20.1.
func (w *twin) do(all []grammar, line string) (string, api.Errno) {
	if len(line) > api.MaxText {
		return "", api.ErrLong
	}
	if idle.MatchString(line) {
		return "", api.OK
	}
	for _, g := range all {
		if !g.line.MatchString(line) {
			continue
		}
		if !w.isTime(g.when) {
			return "", api.ErrAbout
		}
		return g.do(w, g.args(line))
	}
	return "", api.ErrScript
}
