package circuit

import (
	"strconv"
	"strings"

	"strata/api"
)

// write is the text of a circuit.
func write(c api.Circuit) string {
	var text strings.Builder
	put(&text, "circuit", c.Name)
	for _, g := range c.Gates {
		put(&text, lineOf(c, g)...)
	}
	for _, out := range c.Outs {
		put(&text, "output", c.Gates[out].Name)
	}
	put(&text, "end")
	return text.String()
}

// put writes a line of the text.
func put(text *strings.Builder, words ...string) {
	for i, word := range words {
		if i > 0 {
			text.WriteByte(' ')
		}
		text.WriteString(word)
	}
	text.WriteByte('\n')
}

// lineOf are the words of a line of a circuit.
func lineOf(c api.Circuit, g api.Gate) []string {
	list := []string{kinds[g.Kind].word, g.Name}
	switch g.Kind {
	case api.GaGate:
		list = append(list, operators[g.Op])
	case api.GaLatch:
		list = append(list, strconv.Itoa(g.Op))
	}
	for _, place := range used(g) {
		list = append(list, c.Gates[place].Name)
	}
	return list
}
