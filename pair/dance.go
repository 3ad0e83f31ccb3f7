package pair

import "slices"

// dance is a state of the proposals: whom each person has got by asking, and who has got each person. Who has got nobody has the own person.
//
// It is a stable marriage of the people as they ask to the same people as they are asked; everybody is in it twice. Read from the other side it is one as well. The partition is the one that is reached from the best one for those who ask, if all rotations happen that leave nobody with one worse than the one who asks. In the end only rotations are left that are their own mirror images: the odd parties.
type dance struct {
	lists
	next []int
	prev []int
}

// partition returns a stable partition. Its parties are pairs, odd parties, and at most one person alone.
func (l lists) partition() []int {
	d := dance{lists: l}
	for i := range l.orders {
		d.next = append(d.next, i)
		d.prev = append(d.prev, i)
	}
	for i := range l.orders {
		d.seek(i)
	}
	for i := range l.orders {
		d.settle(i)
	}
	return d.next
}

// suitor is a person who proposes.
type suitor struct {
	*dance
	person int
}

// pleases reports whether somebody prefers the suitor to the one who has asked before.
func (s suitor) pleases(somebody int) bool {
	return s.prefers(somebody, s.person, s.prev[somebody])
}

// choice returns the first one on a person's list who says yes, or the person if nobody does. Whoever has said no before, or has left the person, will not say yes any more, so that a person only goes on in the list.
func (d *dance) choice(person int) int {
	order := d.orders[person]
	first := slices.IndexFunc(order, suitor{d, person}.pleases)
	if first < 0 {
		return person
	}
	return order[first]
}

func (d *dance) take(person, partner int) {
	d.next[person], d.prev[partner] = partner, person
}

// seek lets a person propose, and after that whoever is left by the one who says yes, until it is one whom nobody had got. A person whom nobody wants is such a one: everybody else has been got by somebody better, by others than this person.
func (d *dance) seek(person int) {
	for {
		partner := d.choice(person)
		left := d.prev[partner]
		d.take(person, partner)
		if left == partner {
			return
		}
		person = left
	}
}

// contradiction stands for an odd party: if its people propose on, the party only turns round, and everybody has got somebody worse than the one by whom the person is got.
type contradiction struct{}

// settle lets people propose on until a person has got the one who has got the person. In an odd party of three members or more that never happens: the party stays as it is.
func (d *dance) settle(person int) {
	defer func() {
		found := recover()
		if _, odd := found.(contradiction); found != nil && !odd {
			panic(found)
		}
	}()
	for d.next[person] != d.prev[person] {
		d.turn(person)
	}
}

// turn lets the people of a rotation propose on, all at the same time.
func (d *dance) turn(person int) {
	rotation := d.rotation(person)
	var choices []int
	for _, i := range rotation {
		choices = append(choices, d.choice(i))
	}
	for k, i := range rotation {
		d.take(i, choices[k])
	}
}

// rotation returns people of whom each one chooses somebody whom the next one has got, and the last one somebody whom the first one has got. The way to it begins with a person who has not got the one who has got the person; then this is so for all on the way, so that each of them has a choice.
func (d *dance) rotation(person int) []int {
	if d.isOdd(person) {
		panic(contradiction{})
	}
	var path []int
	for !slices.Contains(path, person) {
		path = append(path, person)
		person = d.prev[d.choice(person)]
	}
	return path[slices.Index(path, person):]
}

// isOdd reports whether a party of three members or more is an odd one that stays: everybody in it chooses the one who has got the person. (In an even party of that kind every second member can choose so, and pairs result.)
func (d *dance) isOdd(person int) bool {
	party := partyOf(d.next, person)
	for _, i := range party {
		if d.choice(i) != d.prev[i] {
			return false
		}
	}
	return len(party)%2 == 1
}
