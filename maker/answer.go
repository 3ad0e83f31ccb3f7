package maker

import (
	"strconv"
	"strings"

	"gamp/api"
)

// refusal is the reply to a line that is refused.
func refusal(e api.Errno) string {
	return numbers("!", int(e))
}

// texts is a line of a reply: a word, and a list.
func texts[T ~string](first string, list ...T) string {
	var line strings.Builder
	line.WriteString(first)
	for _, t := range list {
		line.WriteString(" ")
		line.WriteString(string(t))
	}
	line.WriteString("\n")
	return line.String()
}

// numbers is a line of a reply: a word, and numbers.
func numbers(first string, list ...int) string {
	var words []string
	for _, n := range list {
		words = append(words, strconv.Itoa(n))
	}
	return texts(first, words...)
}

// rows is a line of numbers for each list.
func rows(first string, lists [][]int) string {
	var lines strings.Builder
	for _, list := range lists {
		lines.WriteString(numbers(first, list...))
	}
	return lines.String()
}

// yesOrNo is the line yes or no.
func yesOrNo(yes bool) string {
	if yes {
		return texts[string]("yes")
	}
	return texts[string]("no")
}

// existence is the reply of a question whose answer is no if there is no such thing.
func existence(e api.Errno) (string, api.Errno) {
	if e != api.OK && e != api.ErrNone {
		return "", e
	}
	return yesOrNo(e == api.OK), api.OK
}
