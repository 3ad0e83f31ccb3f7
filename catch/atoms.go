package catch

// set is a set of places in a rule: bit 0 is the place before all of it, the others are its atoms. More atoms than there are bits are read only to be refused.
type set uint64

// before is the place where each label begins.
const before set = 1

func (s set) has(place int) bool {
	return s>>place&1 == 1
}

// atoms are the letters, dots and classes of a rule: which of them may be each letter, and which of them may come next at each place (Glushkov's automaton).
type atoms struct {
	are  [len(letters)]set
	next []set
}

// part is a part of a rule: whether it allows the empty label, and at which atoms its labels begin and end.
type part struct {
	empty       bool
	first, last set
}

// add adds an atom that may be each one of some letters.
func (a *atoms) add(some string) part {
	atom := set(1) << len(a.next)
	a.next = append(a.next, 0)
	for i := range len(some) {
		a.are[number(some[i])] |= atom
	}
	return part{first: atom, last: atom}
}

// link lets some atoms come next at some places.
func (a *atoms) link(places, next set) {
	for place := range a.next {
		if places.has(place) {
			a.next[place] |= next
		}
	}
}

// join returns parts one after the other.
func (a *atoms) join(parts ...part) part {
	whole := part{empty: true}
	for _, p := range parts {
		a.link(whole.last, p.first)
		if whole.empty {
			whole.first |= p.first
		}
		if p.empty {
			p.last |= whole.last
		}
		whole = part{whole.empty && p.empty, whole.first, p.last}
	}
	return whole
}

// either returns what one of the parts allows.
func (a *atoms) either(parts ...part) part {
	var whole part
	for _, p := range parts {
		whole = part{whole.empty || p.empty, whole.first | p.first, whole.last | p.last}
	}
	return whole
}

// again returns one part or more, one after the other.
func (a *atoms) again(p part) part {
	a.link(p.last, p.first)
	return p
}

// after returns where a letter leads from some places.
func (a *atoms) after(places set, letter int) set {
	var next set
	for place, follow := range a.next {
		if places.has(place) {
			next |= follow
		}
	}
	return next & a.are[letter]
}
