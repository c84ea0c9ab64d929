package console

import (
	"math/big"
	"strconv"
	"strings"

	"strata/api"
)

const (
	nothing = "none" // a list of no elements
	noBits  = "-"    // bits of no variables
)

// as tells what a call has answered by a function that writes it; a refusal as it is.
func as[A any](write func(A) string) func(A, api.Errno) (string, api.Errno) {
	return func(answer A, e api.Errno) (string, api.Errno) {
		if e != api.OK {
			return "", e
		}
		return write(answer), api.OK
	}
}

// joined is a list, with that between each two of its elements.
func joined(list []string, between string) string {
	if len(list) == 0 {
		return nothing
	}
	return strings.Join(list, between)
}

func numbers(list []int) string {
	texts := make([]string, 0, len(list))
	for _, n := range list {
		texts = append(texts, strconv.Itoa(n))
	}
	return joined(texts, blank)
}

func bit(v bool) string {
	if v {
		return "1"
	}
	return "0"
}

func bits(list []bool) string {
	if len(list) == 0 {
		return noBits
	}
	var text strings.Builder
	for _, v := range list {
		text.WriteString(bit(v))
	}
	return text.String()
}

func states(list [][]bool) string {
	texts := make([]string, 0, len(list))
	for _, state := range list {
		texts = append(texts, bits(state))
	}
	return joined(texts, blank)
}

func yesOrNo(v bool) string {
	if v {
		return "yes"
	}
	return "no"
}

func decimal(n *big.Int) string { return n.String() }

func fraction(x float64) string { return strconv.FormatFloat(x, 'g', -1, 64) }

// onOneLine is a text in which a / stands for the end of each line.
func onOneLine(text string) string { return strings.ReplaceAll(text, "\n", "/") }

// inLines is that text again.
func inLines(text string) string { return strings.ReplaceAll(text, "/", "\n") }

// counted is what a disk has counted.
func counted(n api.Counts) string {
	return "calls " + strconv.Itoa(n.Calls) + " reads " + strconv.Itoa(n.Reads) + " appends " + strconv.Itoa(n.Appends) + " faults " + strconv.Itoa(n.Faults) +
		" full " + strconv.Itoa(n.Full) + " used " + strconv.Itoa(n.Used) + " most " + strconv.Itoa(n.Most)
}
