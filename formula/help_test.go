package formula_test

import (
	"strings"

	"strata/api"
	"strata/bench"
	"strata/formula"
)

func v(n int) api.Fnode { return api.Fnode{Op: api.FoVar, N: n} }

func c(n int) api.Fnode { return api.Fnode{Op: api.FoConst, N: n} }

func exists(n int) api.Fnode { return api.Fnode{Op: api.FoExists, N: n} }

func forall(n int) api.Fnode { return api.Fnode{Op: api.FoForall, N: n} }

// The nodes that have no number of their own.
var (
	not = api.Fnode{Op: api.FoNot}
	and = api.Fnode{Op: api.FoAnd}
	or  = api.Fnode{Op: api.FoOr}
	xor = api.Fnode{Op: api.FoXor}
	imp = api.Fnode{Op: api.FoImp}
	iff = api.Fnode{Op: api.FoIff}
	ite = api.Fnode{Op: api.FoIte}
)

func list(nodes ...api.Fnode) []api.Fnode { return nodes }

// at is a fault at a place.
func at(code api.Errno, line, col int) api.Fault {
	return api.Fault{Code: code, At: api.Pos{Line: line, Col: col}}
}

// dice make formulas and texts that are the same in each run.
type dice struct{ bench.Dice }

func newDice(seed uint64) *dice { return &dice{bench.Dice(seed)} }

// of is one of several.
func of[T any](d *dice, all ...T) T { return all[d.Below(len(all))] }

// tree is a formula of so many nodes over few variables.
func (d *dice) tree(nodes int) []api.Fnode {
	switch {
	case nodes <= 1:
		return of(d, list(c(0)), list(c(1)), list(v(d.Below(3))), list(v(d.Below(3))), list(v(65535-d.Below(2))))
	case nodes == 2 || d.Below(3) == 0:
		return append(d.tree(nodes-1), of(d, not, exists(d.Below(3)), forall(d.Below(3)), exists(65535)))
	case nodes >= 4 && d.Below(5) == 0:
		a := 1 + d.Below(nodes-3)
		b := 1 + d.Below(nodes-2-a)
		f := append(d.tree(a), d.tree(b)...)
		return append(append(f, d.tree(nodes-1-a-b)...), ite)
	}
	a := 1 + d.Below(nodes-2)
	return append(append(d.tree(a), d.tree(nodes-1-a)...), of(d, and, or, xor, imp, iff))
}

// deep is a formula that is nested up to about so many times.
func (d *dice) deep(nest int) []api.Fnode {
	f := d.tree(1)
	for range nest {
		switch d.Below(5) {
		case 0:
			f = append(f, of(d, not, not, exists(0), forall(1)))
		case 1, 2:
			f = append(append(f, d.tree(1+d.Below(2))...), of(d, and, or, xor, imp, iff))
		case 3:
			f = append(append(d.tree(1+d.Below(2)), f...), of(d, and, or, xor, imp, iff))
		case 4:
			f = append(of(d, append(append(list(v(0)), f...), v(1)), append(list(v(0), v(1)), f...), append(f, v(0), v(1))), ite)
		}
	}
	return f
}

// gap is what may stand between two tokens.
func (d *dice) gap() string {
	return of(d, "", "", " ", "\t", "\n", "\r\n", "  ", "# x0 & (\n", "#\xff\xfe ∧\n", "\n#\n\n ")
}

// odd is a text with the same tokens as another one, written otherwise.
func (d *dice) odd(text string) string {
	var out strings.Builder
	last := ""
	for _, p := range cut(text) {
		next := p.text
		if all := spellings[next]; all != nil {
			next = of(d, all...)
		}
		gap := d.gap()
		if gap == "" && isWordy(last) && isWordy(next) {
			gap = " "
		}
		out.WriteString(gap + next)
		last = next
	}
	return out.String() + of(d, "", "# the end", " \t")
}

// isWordy tells whether a token runs on into a letter or digit behind it.
func isWordy(token string) bool {
	return token != "" && strings.Contains("abcdefghijklmnopqrstuvwxyz0123456789", token[:1])
}

// bracketed is a text of a formula with brackets that are not needed.
func (d *dice) bracketed(f []api.Fnode) string {
	text, _ := formula.Print(f)
	for range d.Below(3) {
		text = "(" + text + ")"
	}
	return of(d, text, full(f))
}

// bent is a text that has been changed at a few places.
func (d *dice) bent(text string) string {
	for range 1 + d.Below(2) {
		i := d.Below(len(text) + 1)
		j := min(len(text), i+d.Below(3))
		text = text[:i] + of(d, "", "", " ", "(", ")", ",", ":", "!", "&", "->", "<->", "<", "-", "x", "x0", "x7 ", "1", "0", "2", "ite", "exists ", "∃", "∧", "\xe2", "\x88", "é", "=", "#", "\n") + text[j:]
	}
	return text
}

// spare is a list with spare room behind it, which is filled.
func spare[T any](f []T, fill T) []T {
	out := make([]T, len(f)+4)
	copy(out, f)
	for i := len(f); i < len(out); i++ {
		out[i] = fill
	}
	return out[:len(f)]
}
