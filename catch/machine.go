package catch

import (
	"slices"

	"gamp/api"
)

// row has the next state for each letter.
type row [len(letters)]int

// machine is a complete deterministic automaton. Its states are numbered in the order in which a breadth-first search from state 0 reaches them, which is the order of the first labels that lead to them.
type machine struct {
	next   []row
	accept []bool
}

// machine returns an automaton of the rule, which need not be minimal.
func (p pattern) machine() machine {
	var m machine
	states := []set{before}
	numbers := map[set]int{before: 0}
	for i := 0; i < len(states); i++ {
		var next row
		for letter := range next {
			places := p.atoms.after(states[i], letter)
			if _, known := numbers[places]; !known {
				numbers[places] = len(states)
				states = append(states, places)
			}
			next[letter] = numbers[places]
		}
		m.next = append(m.next, next)
		m.accept = append(m.accept, p.side.holds(states[i]))
	}
	return m
}

// behaviour is what tells states apart: whether they accept, and the classes of the next states.
type behaviour struct {
	accept bool
	next   row
}

// merged returns the minimal automaton (Moore's refinement). Two states stay in one class while no label up to some length, which grows, tells them apart.
func (m machine) merged() machine {
	classes := make([]int, len(m.next))
	old := make([]int, len(m.next))
	for count, more := 0, 1; more > count; {
		count = more
		copy(old, classes)
		more = m.refine(classes, old)
	}
	return m.quotient(classes)
}

// refine divides the old classes further, and returns how many there are now. They are numbered by their first states.
func (m machine) refine(classes, old []int) int {
	numbers := map[behaviour]int{}
	for state, next := range m.next {
		b := behaviour{accept: m.accept[state]}
		for letter, other := range next {
			b.next[letter] = old[other]
		}
		if _, known := numbers[b]; !known {
			numbers[b] = len(numbers)
		}
		classes[state] = numbers[b]
	}
	return len(numbers)
}

// quotient makes a state of each class. The order of their first labels stays, since each class is numbered by its first state.
func (m machine) quotient(classes []int) machine {
	var q machine
	for state, class := range classes {
		if class < len(q.next) {
			continue
		}
		var next row
		for letter, other := range m.next[state] {
			next[letter] = classes[other]
		}
		q.next = append(q.next, next)
		q.accept = append(q.accept, m.accept[state])
	}
	return q
}

func (m machine) shown() api.Machine {
	shown := api.Machine{Accept: slices.Clone(m.accept)}
	for _, next := range m.next {
		shown.Next = append(shown.Next, slices.Clone(next[:]))
	}
	return shown
}

// first returns the first label that is accepted, if there is one. It is the one that leads first to the accepting state with the least number.
func (m machine) first() (string, bool) {
	state := slices.Index(m.accept, true)
	if state < 0 {
		return "", false
	}
	label := ""
	for state > 0 {
		from := slices.IndexFunc(m.next, func(next row) bool { return slices.Contains(next[:], state) })
		letter := slices.Index(m.next[from][:], state)
		label = letters[letter:letter+1] + label
		state = from
	}
	return label, true
}

// isDead reports whether nothing is accepted from a state of a minimal automaton, which has at most one such state.
func (m machine) isDead(state int) bool {
	next := m.next[state]
	return !m.accept[state] && next == row{state, state, state, state}
}

// endless reports whether a minimal automaton accepts infinitely many labels: whether a ring of states is left when all those are taken away that lie on no ring and behind none.
func (m machine) endless() bool {
	ways, alive := make([]int, len(m.next)), 0
	for state, next := range m.next {
		if m.isDead(state) {
			continue
		}
		alive++
		for _, other := range next {
			ways[other]++
		}
	}
	var gone []int
	if ways[0] == 0 && !m.isDead(0) {
		gone = append(gone, 0)
	}
	for i := 0; i < len(gone); i++ {
		for _, other := range m.next[gone[i]] {
			ways[other]--
			if ways[other] == 0 && !m.isDead(other) {
				gone = append(gone, other)
			}
		}
	}
	return len(gone) < alive
}
