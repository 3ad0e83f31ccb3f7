package strap

import (
	"slices"

	"gamp/api"
)

// check returns the first error of a word that may have at most so many letters.
func check(n int, word []int, most int) api.Errno {
	if !areStrands(n) {
		return api.ErrArg
	}
	for _, letter := range word {
		if letter == 0 || letter <= -n || letter >= n {
			return api.ErrForm
		}
	}
	if len(word) > most {
		return api.ErrLong
	}
	return api.OK
}

func areStrands(n int) bool {
	return n >= 2 && n <= api.MaxStrands
}

// reversed returns the word of the inverse braid.
func reversed(word []int) []int {
	result := slices.Clone(word)
	slices.Reverse(result)
	for i := range result {
		result[i] = -result[i]
	}
	return result
}
