package catch

import "strings"

// letters are those of the labels, in their order.
const letters = "abcd"

func isLetter(c byte) bool {
	return strings.IndexByte(letters, c) >= 0
}

func isLabel(text string) bool {
	for i := range len(text) {
		if !isLetter(text[i]) {
			return false
		}
	}
	return true
}

// number returns the place of a letter in the order of letters.
func number(letter byte) int {
	return int(letter - letters[0])
}
