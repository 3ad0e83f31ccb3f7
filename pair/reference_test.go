package pair_test

import (
	"iter"
	"math/rand"
	"slices"
)

// This file reads the chapter's definitions literally.

// people are the ranks of everybody.
type people [][]int

func (p people) prefers(i, a, b int) bool {
	return slices.Index(p[i], a) < slices.Index(p[i], b)
}

// block reports whether two people block a matching.
func (p people) block(match []int, i, j int) bool {
	return i != j && match[i] != j && (match[i] == -1 || p.prefers(i, j, match[i])) && (match[j] == -1 || p.prefers(j, i, match[j]))
}

// blocking returns the first two people who block a matching, if there are two.
func (p people) blocking(match []int) (int, int, bool) {
	for i := range p {
		for j := i + 1; j < len(p); j++ {
			if p.block(match, i, j) {
				return i, j, true
			}
		}
	}
	return 0, 0, false
}

func (p people) isStableMatching(match []int) bool {
	_, _, found := p.blocking(match)
	return isMatching(match, len(p)) && !found
}

func isMatching(match []int, n int) bool {
	for i, j := range match {
		if j != -1 && (j < 0 || j >= n || j == i || match[j] != i) {
			return false
		}
	}
	return len(match) == n
}

func isPermutation(list []int) bool {
	for i := range list {
		if !slices.Contains(list, i) {
			return false
		}
	}
	return true
}

// likes reports whether a person prefers another one to the one before the person.
func (p people) likes(prev []int, i, j int) bool {
	return prev[i] == i || p.prefers(i, j, prev[i])
}

func (p people) isStablePartition(next []int) bool {
	if len(next) != len(p) || !isPermutation(next) {
		return false
	}
	prev := make([]int, len(next))
	for i := range next {
		prev[i] = slices.Index(next, i)
	}
	for i := range next {
		if next[i] != prev[i] && !p.prefers(i, next[i], prev[i]) {
			return false
		}
		for j := range next {
			if i != j && p.likes(prev, i, j) && p.likes(prev, j, i) {
				return false
			}
		}
	}
	return true
}

// parties returns all cycles from their least members on, by these.
func parties(next []int) [][]int {
	var all [][]int
	seen := make([]bool, len(next))
	for i := range next {
		var party []int
		for j := i; !seen[j]; j = next[j] {
			seen[j] = true
			party = append(party, j)
		}
		if len(party) > 0 {
			all = append(all, party)
		}
	}
	return all
}

func oddOnes(parties [][]int) [][]int {
	return slices.DeleteFunc(slices.Clone(parties), func(party []int) bool { return len(party)%2 == 0 })
}

// hasLongOdd reports whether there is an odd party of three members or more.
func hasLongOdd(parties [][]int) bool {
	return slices.ContainsFunc(parties, func(party []int) bool { return len(party)%2 == 1 && len(party) > 1 })
}

func equalParties(a, b [][]int) bool {
	return slices.EqualFunc(a, b, slices.Equal[[]int])
}

// permutations yields all permutations of n elements.
func permutations(n int) iter.Seq[[]int] {
	return func(yield func([]int) bool) {
		orders(nil, upTo(n), yield)
	}
}

// orders yields a list with the others behind it, in all orders.
func orders(list, others []int, yield func([]int) bool) bool {
	if len(others) == 0 {
		return yield(list)
	}
	for k, i := range others {
		if !orders(append(slices.Clone(list), i), slices.Delete(slices.Clone(others), k, k+1), yield) {
			return false
		}
	}
	return true
}

func upTo(n int) []int {
	var list []int
	for i := range n {
		list = append(list, i)
	}
	return list
}

// matchings yields all matchings of n people.
func matchings(n int) iter.Seq[[]int] {
	return func(yield func([]int) bool) {
		match := slices.Repeat([]int{-1}, n)
		matched(match, 0, yield)
	}
}

// matched yields a matching with all further pairs whose lesser member is not below a person.
func matched(match []int, from int, yield func([]int) bool) bool {
	if from == len(match) {
		return yield(slices.Clone(match))
	}
	if !matched(match, from+1, yield) {
		return false
	}
	if match[from] != -1 {
		return true
	}
	for j := from + 1; j < len(match); j++ {
		if match[j] != -1 {
			continue
		}
		match[from], match[j] = j, from
		if !matched(match, from+1, yield) {
			return false
		}
		match[from], match[j] = -1, -1
	}
	return true
}

// stableMatchings returns all of them.
func (p people) stableMatchings() [][]int {
	var all [][]int
	for match := range matchings(len(p)) {
		if p.isStableMatching(match) {
			all = append(all, match)
		}
	}
	return all
}

// stablePartitions returns all of them.
func (p people) stablePartitions() [][]int {
	var all [][]int
	for next := range permutations(len(p)) {
		if p.isStablePartition(next) {
			all = append(all, next)
		}
	}
	return all
}

// renamed returns the same people with other numbers: i becomes names[i].
func (p people) renamed(names []int) people {
	q := make(people, len(p))
	for i, list := range p {
		for _, j := range list {
			q[names[i]] = append(q[names[i]], names[j])
		}
	}
	return q
}

// renamedParties returns parties with other numbers for their members, written as the chapter says.
func renamedParties(all [][]int, names []int) [][]int {
	var renamed [][]int
	for _, party := range all {
		var members []int
		for _, i := range party {
			members = append(members, names[i])
		}
		least := slices.Index(members, slices.Min(members))
		renamed = append(renamed, slices.Concat(members[least:], members[:least]))
	}
	slices.SortFunc(renamed, slices.Compare[[]int])
	return renamed
}

func without(n, person int) []int {
	return slices.DeleteFunc(upTo(n), func(i int) bool { return i == person })
}

// allPeople yields all ranks of n people.
func allPeople(n int) iter.Seq[people] {
	return func(yield func(people) bool) {
		ranked(nil, n, yield)
	}
}

// ranked yields the ranks of the first people with all ranks of the others.
func ranked(first people, n int, yield func(people) bool) bool {
	if len(first) == n {
		return yield(slices.Clone(first))
	}
	return orders(nil, without(n, len(first)), func(list []int) bool {
		return ranked(append(slices.Clone(first), list), n, yield)
	})
}

func randomPeople(random *rand.Rand, n int) people {
	p := make(people, n)
	for i := range p {
		p[i] = without(n, i)
		random.Shuffle(n-1, func(a, b int) { p[i][a], p[i][b] = p[i][b], p[i][a] })
	}
	return p
}

// somePeople returns all ranks of up to four people, and some of more.
func somePeople(most, each int) []people {
	var all []people
	for n := 1; n <= 4; n++ {
		all = slices.AppendSeq(all, allPeople(n))
	}
	random := rand.New(rand.NewSource(1))
	for n := 5; n <= most; n++ {
		for range each {
			all = append(all, randomPeople(random, n))
		}
	}
	return all
}

// inRings returns people who sit in rings of these sizes: everybody prefers the next one, then the one before, and then the others in any order.
func inRings(random *rand.Rand, sizes ...int) people {
	n := 0
	var next []int
	for _, size := range sizes {
		for i := range size {
			next = append(next, n+(i+1)%size)
		}
		n += size
	}
	p := randomPeople(random, n)
	for i, list := range p {
		for _, j := range []int{slices.Index(next, i), next[i]} {
			if j != i {
				k := slices.Index(list, j)
				list = slices.Insert(slices.Delete(list, k, k+1), 0, j)
			}
		}
		p[i] = list
	}
	return p
}
