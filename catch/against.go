package catch

import (
	"slices"

	"gamp/api"
)

// pair is a state of each of two automata to which the same label leads, and the pair and the letter before them.
type pair struct {
	left, right int
	from        int
	letter      int
}

// against reports whether two automata accept the same labels, or returns the first label that only one of them accepts, unless it is too long. Pairs are reached in the order of their first labels.
//
// States that pairs before have put into one group are not compared again (Hopcroft and Karp): a label that told them apart would tell apart a pair by which the group came about, and that pair's own label comes before theirs. So no beginning of the first label is left out, and at most as many pairs are reached as there are states.
func (m machine) against(n machine) (bool, string, api.Errno) {
	states := newGroups(len(m.next) + len(n.next))
	states.join(0, len(m.next))
	pairs := []pair{{}}
	for i := 0; i < len(pairs); i++ {
		p := pairs[i]
		if m.accept[p.left] != n.accept[p.right] {
			return toldApart(labelOf(pairs, i))
		}
		for letter := range len(letters) {
			left, right := m.next[p.left][letter], n.next[p.right][letter]
			if states.join(left, len(m.next)+right) {
				pairs = append(pairs, pair{left, right, i, letter})
			}
		}
	}
	return true, "", api.OK
}

// toldApart returns what Same returns for a label that tells rules apart.
func toldApart(label string) (bool, string, api.Errno) {
	if len(label) > api.MaxText {
		return false, "", api.ErrRange
	}
	return false, label, api.OK
}

// labelOf returns the label that leads to a pair.
func labelOf(pairs []pair, i int) string {
	var label []byte
	for ; i > 0; i = pairs[i].from {
		label = append(label, letters[pairs[i].letter])
	}
	slices.Reverse(label)
	return string(label)
}

// groups are disjoint groups of states: each state has another one of its group, or itself.
type groups []int

func newGroups(count int) groups {
	g := make(groups, count)
	for state := range g {
		g[state] = state
	}
	return g
}

// head returns the state that stands for a group, and makes the way to it shorter.
func (g groups) head(state int) int {
	for g[state] != state {
		g[state] = g[g[state]]
		state = g[state]
	}
	return state
}

// join joins the groups of two states, and reports whether they were different.
func (g groups) join(a, b int) bool {
	a, b = g.head(a), g.head(b)
	g[b] = a
	return a != b
}
