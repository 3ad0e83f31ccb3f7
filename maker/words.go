package maker

import (
	"strconv"
	"strings"

	"gamp/api"
	"gamp/catch"
)

// command is a row of the chapter's table: its name, the kinds of the words behind it, and the kinds of those that may follow, any number of times.
type command struct {
	name  string
	kinds string
	more  string
	do    action
}

// action is what a command does. Where it returns an error, it has changed nothing, and its reply counts for nothing.
type action func(m *Maker, in input) (string, api.Errno)

// input is the words behind the name of a command: numbers, and others.
type input struct {
	numbers []int
	texts   []string
}

// The kinds of words, as the table of commands writes them.
const (
	number   = 'N'
	fraction = 'F' // NUM
	text     = 'T' // any word
	player   = 'P' // KIND: who chooses at a node of a game
	part     = 'C' // WHAT: what can be cleared
)

// The parts of the workshop that can be cleared.
const (
	solidPart  = "solid"
	gamePart   = "game"
	peoplePart = "people"
)

// maxDigits is how many digits a number may have.
const maxDigits = 9

// read takes the words behind the name of a command apart, unless they are not as they must be.
func (c command) read(words []string) (input, bool) {
	kinds := c.kinds
	for c.more != "" && len(kinds) < len(words) {
		kinds += c.more
	}
	if len(kinds) != len(words) {
		return input{}, false
	}
	var in input
	for i, word := range words {
		if !is(kinds[i], word) {
			return input{}, false
		}
		in.take(kinds[i], word)
	}
	return in, true
}

// take adds a word. A text is copied, since the workshop may keep it for longer than the line.
func (in *input) take(kind byte, word string) {
	if kind != number {
		in.texts = append(in.texts, strings.Clone(word))
		return
	}
	n, _ := strconv.Atoi(word)
	in.numbers = append(in.numbers, n)
}

// is reports whether a word is of a kind. A number is a fraction that is short and has no slash, and a fraction is a text.
func is(kind byte, word string) bool {
	switch kind {
	case player:
		return nodeKind(word) != 0
	case part:
		return word == solidPart || word == gamePart || word == peoplePart
	case number:
		if strings.Contains(word, "/") || len(strings.TrimPrefix(word, "-")) > maxDigits {
			return false
		}
		fallthrough
	case fraction:
		if !isNum(word) {
			return false
		}
		fallthrough
	case text:
		return word != ""
	}
	return false
}

// isNum reports whether a word is a valid Num. Package catch knows whether a fraction is in lowest terms; the rule is well formed, so that only the Num can be the reason for ErrForm.
func isNum(word string) bool {
	_, e := catch.At("[]", api.Num(word))
	return e != api.ErrForm
}
