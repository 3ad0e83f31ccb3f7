package rib

import (
	"math/bits"
	"slices"

	"gamp/api"
)

// set is a set of numbers below MaxRibs, of nodes mostly: bit i is set if it contains i.
type set uint16

func setOf(numbers ...int) set {
	var s set
	for _, i := range numbers {
		s |= 1 << i
	}
	return s
}

func (s set) has(i int) bool {
	return s>>i&1 == 1
}

func (s set) contains(t set) bool {
	return t&^s == 0
}

func (s set) count() int {
	return bits.OnesCount16(uint16(s))
}

// least returns the least number of a set that is not empty.
func (s set) least() int {
	return bits.TrailingZeros16(uint16(s))
}

// list returns the numbers of a set, rising.
func (s set) list() []int {
	var list []int
	for i := range api.MaxRibs {
		if s.has(i) {
			list = append(list, i)
		}
	}
	return list
}

func compareSets(s, t set) int {
	return slices.Compare(s.list(), t.list())
}
