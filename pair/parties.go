package pair

import "slices"

// readMatch returns whom each person has, and whether it is a matching.
func readMatch(match []int, people int) ([]int, bool) {
	if len(match) != people {
		return nil, false
	}
	has := make([]int, people)
	for i, j := range match {
		switch {
		case j == -1:
			has[i] = i
		case j < 0 || j >= people || j == i || match[j] != i:
			return nil, false
		default:
			has[i] = j
		}
	}
	return has, true
}

// matchOf returns the matching of a partition, and whether it is one: whether no party has three members or more.
func matchOf(next []int) ([]int, bool) {
	match := make([]int, len(next))
	for i, j := range next {
		if next[j] != i {
			return nil, false
		}
		match[i] = j
		if j == i {
			match[i] = -1
		}
	}
	return match, true
}

// partyOf returns the party of a person, from the person on.
func partyOf(next []int, person int) []int {
	party := []int{person}
	for i := next[person]; i != person; i = next[i] {
		party = append(party, i)
	}
	return party
}

// oddParties returns the parties that have an odd number of members.
func oddParties(next []int) [][]int {
	var odd [][]int
	for i := range next {
		party := partyOf(next, i)
		if len(party)%2 == 1 && slices.Min(party) == i {
			odd = append(odd, party)
		}
	}
	return odd
}
