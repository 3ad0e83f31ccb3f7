package pair

import (
	"slices"

	"gamp/api"
)

// lists is the list of each person, and who stands where in it. Everybody stands last in the own list, because to be alone is worse than anybody: so the one whom a person has, if it is nobody, is the person.
type lists struct {
	orders [][]int
	places [][]int
}

// readLists also reports whether the ranks are valid; only then the lists mean something.
func readLists(ranks [][]int) (lists, bool) {
	n := len(ranks)
	if n < 1 || n > api.MaxPeople {
		return lists{}, false
	}
	var l lists
	for i, rank := range ranks {
		if len(rank) != n-1 {
			return lists{}, false
		}
		order := append(slices.Clone(rank), i)
		places, valid := inverse(order)
		if !valid {
			return lists{}, false
		}
		l.orders = append(l.orders, order)
		l.places = append(l.places, places)
	}
	return l, true
}

// inverse returns at which place of a list each number stands, and whether the list is a permutation.
func inverse(list []int) ([]int, bool) {
	places := slices.Repeat([]int{-1}, len(list))
	for place, i := range list {
		if i < 0 || i >= len(list) || places[i] != -1 {
			return nil, false
		}
		places[i] = place
	}
	return places, true
}

// prefers reports whether a person prefers a to b.
func (l lists) prefers(person, a, b int) bool {
	return l.places[person][a] < l.places[person][b]
}

// blocking returns the first two people who prefer each other to those whom they have, if there are two.
func (l lists) blocking(has []int) (int, int, bool) {
	for i := range has {
		for j := i + 1; j < len(has); j++ {
			if l.prefers(i, j, has[i]) && l.prefers(j, i, has[j]) {
				return i, j, true
			}
		}
	}
	return 0, 0, false
}

// isStable reports whether a partition is stable.
func (l lists) isStable(next, prev []int) bool {
	for i := range next {
		if l.prefers(i, prev[i], next[i]) {
			return false
		}
	}
	_, _, found := l.blocking(prev)
	return !found
}
