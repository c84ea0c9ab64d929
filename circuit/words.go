package circuit

import (
	"strings"

	"strata/api"
)

// blanks are the bytes that part the words of a line.
const blanks = " \t\r"

// word is a word of a text.
type word struct {
	text string
	at   int // its first byte
}

// words are those of a line that begins at a byte of its text.
func words(line string, at int) []word {
	line, _, _ = strings.Cut(line, "#")
	var list []word
	for rest := strings.TrimLeft(line, blanks); rest != ""; rest = strings.TrimLeft(rest, blanks) {
		text := rest
		if end := strings.IndexAny(rest, blanks); end >= 0 {
			text = rest[:end]
		}
		list = append(list, word{text, at + len(line) - len(rest)})
		rest = rest[len(text):]
	}
	return list
}

// place is the line and the column of a byte of a text.
func place(text string, at int) api.Pos {
	ahead := text[:at]
	return api.Pos{Line: 1 + strings.Count(ahead, "\n"), Col: at - strings.LastIndex(ahead, "\n")}
}
