package catch

import "gamp/api"

// counts has for each state how many labels of one length are accepted from there.
type counts []amount

// shortest returns the counts of the length 0.
func (m machine) shortest() counts {
	c := make(counts, len(m.next))
	for state, accept := range m.accept {
		if accept {
			c[state] = amount{1}
		}
	}
	return c
}

// longer returns the counts of the next length, in the memory of others that are no longer used.
func (m machine) longer(c, used counts) counts {
	for state, next := range m.next {
		used[state] = added(used[state][:0], c[next[0]], c[next[1]], c[next[2]], c[next[3]])
	}
	return used
}

// count returns how many labels of a length are accepted.
func (m machine) count(length int) amount {
	now, used := m.shortest(), make(counts, len(m.next))
	for range length {
		next := m.longer(now, used)
		now, used = next, now
	}
	return now[0]
}

// rank returns how many labels that are accepted come before a label: those that are shorter, and those of its length in which a letter is less for the first time.
func (m machine) rank(label string) amount {
	states := make([]int, len(label)+1)
	for i := range len(label) {
		states[i+1] = m.next[states[i]][number(label[i])]
	}
	var sum amount
	now, used := m.shortest(), make(counts, len(m.next))
	for length := range len(label) {
		sum = added(nil, sum, now[0])
		place := len(label) - 1 - length
		for letter := range number(label[place]) {
			sum = added(nil, sum, now[m.next[states[place]][letter]])
		}
		next := m.longer(now, used)
		now, used = next, now
	}
	return sum
}

// at returns the label of a rank of a minimal automaton.
func (m machine) at(rank amount) (string, api.Errno) {
	endless := m.endless()
	lengths, now := []counts{}, m.shortest()
	for !rank.isLess(now[0]) {
		if now.areNone() {
			return "", api.ErrNone
		}
		if endless && len(lengths) == api.MaxText {
			return "", api.ErrRange
		}
		rank = rank.minus(now[0])
		lengths = append(lengths, now)
		now = m.longer(now, make(counts, len(m.next)))
	}
	if len(lengths) > api.MaxText {
		return "", api.ErrRange
	}
	return m.labelAt(rank, lengths), api.OK
}

// areNone reports whether no label of this length is accepted from any state, and so no longer one either.
func (c counts) areNone() bool {
	for _, a := range c {
		if len(a) > 0 {
			return false
		}
	}
	return true
}

// labelAt returns the label of a rank among those of one length, given the counts of all lengths below it.
func (m machine) labelAt(rank amount, lengths []counts) string {
	label, state := "", 0
	for i := range lengths {
		now := lengths[len(lengths)-1-i]
		letter := 0
		for !rank.isLess(now[m.next[state][letter]]) {
			rank = rank.minus(now[m.next[state][letter]])
			letter++
		}
		label += letters[letter : letter+1]
		state = m.next[state][letter]
	}
	return label
}
