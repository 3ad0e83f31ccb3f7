package maker

import (
	"maps"
	"slices"

	"gamp/api"
	"gamp/pledge"
)

// Maker is the workshop of an umbrella maker.
type Maker struct {
	// self is the workshop itself, so that one that was copied by hand, and would share its lists with the other one, is told apart from one that New or Clone returned.
	self     *Maker
	strip    []int
	vertex   []int
	knots    int
	springs  []api.Spring
	solid    []api.Cell
	ribs     int
	meetings []api.Pair
	strands  int
	braids   map[string][]int
	game     []api.Node
	discount api.Num
	people   [][]int
	rules    map[string]string
	trade    *pledge.Trade
}

// The workshop at first.
const (
	firstKnots    = 2
	firstRibs     = 1
	firstStrands  = 3
	firstDiscount = "1/2"
	firstStock    = 10
)

// begin returns the workshop as it is at first.
func begin() *Maker {
	m := &Maker{
		knots:    firstKnots,
		ribs:     firstRibs,
		strands:  firstStrands,
		braids:   map[string][]int{},
		discount: firstDiscount,
		rules:    map[string]string{},
	}
	m.self = m
	m.trade, _ = pledge.New([][]int{{firstStock}, {firstStock}})
	return m
}

// exists reports whether New or Clone returned the workshop.
func (m *Maker) exists() bool {
	return m != nil && m.self == m
}

// clone returns a copy that shares no memory with the workshop.
func (m *Maker) clone() *Maker {
	c := *m
	c.self = &c
	c.strip = slices.Clone(m.strip)
	c.vertex = slices.Clone(m.vertex)
	c.springs = slices.Clone(m.springs)
	c.solid = slices.Clone(m.solid)
	c.meetings = slices.Clone(m.meetings)
	c.braids = map[string][]int{}
	for name, word := range m.braids {
		c.braids[name] = slices.Clone(word)
	}
	c.game = slices.Clone(m.game)
	for i, node := range m.game {
		c.game[i].Moves = slices.Clone(node.Moves)
	}
	c.people = slices.Clone(m.people)
	for i, list := range m.people {
		c.people[i] = slices.Clone(list)
	}
	c.rules = maps.Clone(m.rules)
	c.trade = m.trade.Clone()
	return &c
}

// clear makes a part of the workshop as it is at first.
func (m *Maker) clear(in input) (string, api.Errno) {
	switch in.texts[0] {
	case solidPart:
		m.solid = nil
	case gamePart:
		m.game, m.discount = nil, firstDiscount
	case peoplePart:
		m.people = nil
	}
	return "", api.OK
}

// add adds an item to a list, unless there would be too many.
func add[T any](list *[]T, item T, most int) api.Errno {
	if len(*list) >= most {
		return api.ErrFull
	}
	*list = append(*list, item)
	return api.OK
}

// maxNames is how many braid words, and how many rules, have names.
const maxNames = 20

// put gives a name to an item, also in the place of another one, unless there would be too many names.
func put[T any](names map[string]T, name string, item T) api.Errno {
	if _, known := names[name]; !known && len(names) >= maxNames {
		return api.ErrFull
	}
	names[name] = item
	return api.OK
}

// isBetween reports whether a size is allowed.
func isBetween(size, least, most int) bool {
	return least <= size && size <= most
}
