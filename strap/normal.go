package strap

import (
	"slices"

	"gamp/api"
)

// mostLetters is how many letters the word of a normal form may have.
const mostLetters = 10000

func normalForms(n int) image[api.Braid] {
	return image[api.Braid]{
		ofLetter: func(letter int) api.Braid { return normalLetter(n, letter) },
		product:  normalProduct,
	}
}

// normalLetter returns the normal form of a letter: -k is the inverse of the half twist and then the half twist without a last letter k, which is a simple braid.
func normalLetter(n, letter int) api.Braid {
	if letter > 0 {
		return followed(api.Braid{}, exchange(n, letter))
	}
	return followed(api.Braid{Power: -1}, halfTwist(n).then(exchange(n, letter)))
}

// normalProduct returns the normal form of the product of two braids in normal form. The half twists of the second one pass the factors of the first one.
func normalProduct(a, b api.Braid) api.Braid {
	product := api.Braid{Power: a.Power + b.Power}
	for _, s := range a.Factors {
		if b.Power%2 != 0 {
			s = permutation(s).flipped()
		}
		product.Factors = append(product.Factors, s)
	}
	for _, s := range b.Factors {
		product = followed(product, s)
	}
	return product
}

// followed returns the normal form of the product of a braid in normal form and a simple braid. Once through the pairs of factors, from the last one on, is enough: settling a pair leaves those behind it settled.
func followed(b api.Braid, s permutation) api.Braid {
	factors := append(slices.Clone(b.Factors), s)
	for i := len(factors) - 1; i > 0; i-- {
		factors[i-1], factors[i] = settled(factors[i-1], factors[i])
	}
	n := len(s)
	power := b.Power
	for len(factors) > 0 && slices.Equal(factors[0], halfTwist(n)) {
		power++
		factors = factors[1:]
	}
	for len(factors) > 0 && slices.Equal(factors[len(factors)-1], identity(n)) {
		factors = factors[:len(factors)-1]
	}
	return api.Braid{Power: power, Factors: factors}
}

// settled moves letters from the beginning of a simple braid to the end of the one before it, as long as that one remains simple.
func settled(s, t permutation) (permutation, permutation) {
	for {
		letter, found := movable(s, t)
		if !found {
			return s, t
		}
		step := exchange(len(s), letter)
		s, t = s.then(step), step.then(t)
	}
}

// movable returns the least letter with which t can begin and that crosses strands that do not cross in s, if there is one.
func movable(s, t permutation) (int, bool) {
	from := s.inverse()
	for i := 0; i+1 < len(t); i++ {
		if t[i] > t[i+1] && from[i] < from[i+1] {
			return i + 1, true
		}
	}
	return 0, false
}

func isNormal(n int, b api.Braid) bool {
	for i, s := range b.Factors {
		if !isPermutation(n, s) || slices.Equal(s, identity(n)) || slices.Equal(s, halfTwist(n)) {
			return false
		}
		if i == 0 {
			continue
		}
		if _, found := movable(b.Factors[i-1], s); found {
			return false
		}
	}
	return true
}

// isShort reports whether the word of a normal form has at most mostLetters letters.
func isShort(n int, b api.Braid) bool {
	// The half twist has a letter at least, and the product below does not overflow then.
	if b.Power > mostLetters || b.Power < -mostLetters {
		return false
	}
	letters := max(b.Power, -b.Power) * halfTwist(n).crossings()
	for _, s := range b.Factors {
		letters += permutation(s).crossings()
	}
	return letters <= mostLetters
}

// wordOf returns the word of a normal form that is short.
func wordOf(n int, b api.Braid) []int {
	twist := halfTwist(n).word()
	if b.Power < 0 {
		twist = reversed(twist)
	}
	word := slices.Repeat(twist, max(b.Power, -b.Power))
	for _, s := range b.Factors {
		word = append(word, permutation(s).word()...)
	}
	return word
}
