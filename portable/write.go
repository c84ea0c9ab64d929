package portable

import (
	"strconv"
	"strings"

	"strata/api"
	"strata/nodes"
	"strata/recs"
	"strata/tape"
)

// style is what a text has for the parts of a node file.
type style struct {
	head func(end api.Info) string
	node func(node api.Node) string
	tail func(end api.Info) string
}

// write is the text of a diagram, its nodes as they stand in the file.
func write(k *tape.Desk, f string, by style) (string, api.Errno) {
	end, e := begin(k, f)
	if e != api.OK {
		return "", e
	}
	c, e := nodes.Up(k, f)
	if e != api.OK {
		return "", e
	}
	defer c.Close()
	var text strings.Builder
	text.WriteString(by.head(end))
	for {
		node, some, e := c.Next()
		if e != api.OK {
			return "", e
		}
		if !some {
			text.WriteString(by.tail(end))
			return text.String(), api.OK
		}
		text.WriteString(by.node(node))
	}
}

// Words of a diagram's text.
const (
	title     = "strata 1\n"
	levelsAre = "levels "
	nodesAre  = "nodes "
	rootIs    = "root "
)

func dumpHead(end api.Info) string {
	return title + levelsAre + strconv.Itoa(end.Vars) + "\n" + nodesAre + strconv.Itoa(end.Nodes) + "\n"
}

func dumpNode(n api.Node) string {
	return dumped(n.Self) + " " + dumped(n.Low) + " " + dumped(n.High) + "\n"
}

func dumpTail(end api.Info) string { return rootIs + dumped(end.Root) + "\n" }

func dumped(p api.Ptr) string { return written(p, "", ":") }

func dotHead(api.Info) string { return "digraph strata {\n" }

func dotNode(n api.Node) string {
	self := drawn(n.Self)
	return self + " [label=\"x" + strconv.Itoa(recs.Level(n.Self)) + "\"];\n" +
		self + " -> " + drawn(n.Low) + " [style=dashed];\n" +
		self + " -> " + drawn(n.High) + ";\n"
}

func dotTail(end api.Info) string {
	return "F [shape=box];\nT [shape=box];\nroot -> " + drawn(end.Root) + ";\n}\n"
}

func drawn(p api.Ptr) string { return written(p, "n", "_") }

// written is a pointer as a word: a leaf's letter, or the level and the id with something ahead of each.
func written(p api.Ptr, level, id string) string {
	switch p {
	case api.False:
		return "F"
	case api.True:
		return "T"
	}
	l, i, _, _, _ := recs.Split(p)
	return level + strconv.Itoa(l) + id + strconv.Itoa(i)
}
