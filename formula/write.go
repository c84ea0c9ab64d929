package formula

import (
	"strconv"
	"strings"

	"strata/api"
)

// write is the text of a tree.
func write(t tree) string {
	var w writer
	w.operand(t, spot{})
	return w.text.String()
}

type writer struct{ text strings.Builder }

func (w *writer) put(parts ...string) {
	for _, part := range parts {
		w.text.WriteString(part)
	}
}

// operand writes a tree with the brackets that it has at a spot.
func (w *writer) operand(t tree, s spot) {
	if !s.brackets(t) {
		w.bare(t, s.followed)
		return
	}
	w.put("(")
	w.bare(t, false)
	w.put(")")
}

// bare writes a tree without brackets around it.
func (w *writer) bare(t tree, followed bool) {
	switch t := t.(type) {
	case constant:
		w.put(strconv.FormatBool(t.value == 1))
	case variable:
		w.put(name(t.number))
	case opposite:
		w.put("!")
		w.operand(t.operand, spot{tightest, followed})
	case quantified:
		w.put(quantifierWord(t.op), " ")
		w.bound(t)
	case joined:
		first, second := sides(t.op, followed)
		w.operand(t.first, first)
		w.put(" ", operatorSign(t.op), " ")
		w.operand(t.second, second)
	case choice:
		w.put("ite(")
		w.operand(t.test, spot{})
		w.put(", ")
		w.operand(t.then, spot{})
		w.put(", ")
		w.operand(t.other, spot{})
		w.put(")")
	}
}

// bound writes the variables of quantifiers of one kind within one another, and what they speak of.
func (w *writer) bound(t quantified) {
	w.put(name(t.number))
	inner, within := t.operand.(quantified)
	if within && inner.op == t.op {
		w.put(", ")
		w.bound(inner)
		return
	}
	w.put(": ")
	w.operand(t.operand, spot{})
}

func name(variable int) string { return "x" + strconv.Itoa(variable) }

func quantifierWord(op int) string {
	if op == api.FoExists {
		return "exists"
	}
	return "forall"
}

func operatorSign(op int) string {
	switch op {
	case api.FoAnd:
		return "&"
	case api.FoXor:
		return "^"
	case api.FoOr:
		return "|"
	case api.FoImp:
		return "->"
	}
	return "<->"
}
