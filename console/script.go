package console

import (
	"strconv"
	"strings"

	"strata/api"
)

// Run obeys a whole script from a new console on.
func Run(script string) (string, api.Fault) {
	if len(script) > api.MaxText {
		return "", api.Fault{Code: api.ErrLong}
	}
	c, lines := New(), handOn(script)
	var answers strings.Builder
	for number := 1; ; number++ {
		text, some := next(lines)
		if !some {
			return answers.String(), api.Fault{}
		}
		if isIdle(text) {
			continue
		}
		answer, e := c.Do(text)
		switch e {
		case api.OK:
		case api.ErrScript, api.ErrAbout:
			return "", api.Fault{Code: e, At: api.Pos{Line: number, Col: 1}}
		default:
			answer = "error " + strconv.Itoa(int(e))
		}
		answers.WriteString(answer + "\n")
	}
}

// handOn is a channel that holds all lines of a script, and nothing will come behind them.
func handOn(script string) <-chan string {
	texts := strings.Split(script, "\n") // what is empty behind the last line feed is no line, and does nothing as one
	lines := make(chan string, len(texts))
	for _, text := range texts {
		lines <- text
	}
	close(lines)
	return lines
}

// next is the next line, or the end of the script; nobody is waited for.
func next(lines <-chan string) (string, bool) {
	select {
	case text, some := <-lines:
		return text, some
	default:
		return "", false
	}
}
