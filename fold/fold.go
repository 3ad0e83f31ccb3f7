// Package fold is layer 1: see shared/doc/01-fold.md.
package fold

import (
	"maps"
	"slices"

	"gamp/api"
)

// Folds reports whether an order folds a strip.
func Folds(strip []int, order []int) (bool, api.Errno) {
	if !isStrip(strip) {
		return false, api.ErrArg
	}
	if !isOrder(order, len(strip)) {
		return false, api.ErrForm
	}
	return clothOfStrip(strip).foldedBy(order), api.OK
}

// Creases returns the creases of an order.
func Creases(strip []int, order []int) (string, api.Errno) {
	ok, e := Folds(strip, order)
	if e != api.OK {
		return "", e
	}
	if !ok {
		return "", api.ErrNone
	}
	return clothOfStrip(strip).letters(order), api.OK
}

// Layers returns the least order with a crease pattern.
func Layers(strip []int, pattern string) ([]int, api.Errno) {
	if !isStrip(strip) {
		return nil, api.ErrArg
	}
	if !isPattern(pattern, len(strip)-1) {
		return nil, api.ErrForm
	}
	c := clothOfStrip(strip)
	for order := range c.orders() {
		if c.letters(order) == pattern {
			return order, api.OK
		}
	}
	return nil, api.ErrNone
}

// Reduce returns what simple folds leave of a strip.
func Reduce(strip []int, pattern string) ([]int, string, api.Errno) {
	if !isStrip(strip) {
		return nil, "", api.ErrArg
	}
	if !isPattern(pattern, len(strip)-1) {
		return nil, "", api.ErrForm
	}
	lengths, letters := slices.Clone(strip), pattern
	for reduced := true; reduced; {
		lengths, letters, reduced = reduceOnce(lengths, letters)
	}
	return lengths, letters, api.OK
}

// Count returns how many orders fold a strip.
func Count(strip []int) (int, api.Errno) {
	if !isStrip(strip) {
		return 0, api.ErrArg
	}
	count := 0
	for range clothOfStrip(strip).orders() {
		count++
	}
	return count, api.OK
}

// At returns the order of a number.
func At(strip []int, rank int) ([]int, api.Errno) {
	if !isStrip(strip) {
		return nil, api.ErrArg
	}
	at := 0
	for order := range clothOfStrip(strip).orders() {
		if at == rank {
			return order, api.OK
		}
		at++
	}
	return nil, api.ErrNone
}

// Rank returns the number of an order.
func Rank(strip []int, order []int) (int, api.Errno) {
	ok, e := Folds(strip, order)
	if e != api.OK {
		return 0, e
	}
	if !ok {
		return 0, api.ErrNone
	}
	rank := 0
	for other := range clothOfStrip(strip).orders() {
		if slices.Equal(other, order) {
			break
		}
		rank++
	}
	return rank, api.OK
}

// FoldsVertex reports whether an order folds a vertex.
func FoldsVertex(vertex []int, order []int) (bool, api.Errno) {
	if !isVertex(vertex) {
		return false, api.ErrArg
	}
	if !isOrder(order, len(vertex)) {
		return false, api.ErrForm
	}
	c, closes := clothOfVertex(vertex)
	return closes && c.foldedBy(order), api.OK
}

// CreasesVertex returns the creases of an order of a vertex.
func CreasesVertex(vertex []int, order []int) (string, api.Errno) {
	ok, e := FoldsVertex(vertex, order)
	if e != api.OK {
		return "", e
	}
	if !ok {
		return "", api.ErrNone
	}
	c, _ := clothOfVertex(vertex)
	return c.letters(order), api.OK
}

// Flat reports whether a vertex can be folded with a crease pattern.
func Flat(vertex []int, pattern string) (bool, api.Errno) {
	if !isVertex(vertex) {
		return false, api.ErrArg
	}
	if !isPattern(pattern, len(vertex)) {
		return false, api.ErrForm
	}
	c, closes := clothOfVertex(vertex)
	if !closes {
		return false, api.OK
	}
	for order := range c.orders() {
		if c.letters(order) == pattern {
			return true, api.OK
		}
	}
	return false, api.OK
}

// Patterns returns all crease patterns with which a vertex can be folded.
func Patterns(vertex []int) ([]string, api.Errno) {
	if !isVertex(vertex) {
		return nil, api.ErrArg
	}
	c, closes := clothOfVertex(vertex)
	if !closes {
		return nil, api.OK
	}
	found := map[string]bool{}
	for order := range c.orders() {
		found[c.letters(order)] = true
	}
	return slices.Sorted(maps.Keys(found)), api.OK
}
