package catch

import "slices"

// The kinds of sides.
const (
	one  = iota // the places are among some of a rule
	not         // what follows does not hold
	all         // each of the sides holds
	some        // at least one of the sides holds
)

// side is a condition on the places where a label ends.
type side struct {
	kind  int
	last  set
	sides []side
}

// joined returns a side of any number of others; one alone is left as it is.
func joined(kind int, sides ...side) side {
	if len(sides) == 1 {
		return sides[0]
	}
	return side{kind: kind, sides: sides}
}

func opposite(s side) side {
	return side{kind: not, sides: []side{s}}
}

func (s side) holds(places set) bool {
	switch s.kind {
	case one:
		return places&s.last != 0
	case not:
		return !s.sides[0].holds(places)
	case all:
		return !slices.ContainsFunc(s.sides, func(other side) bool { return !other.holds(places) })
	default:
		return slices.ContainsFunc(s.sides, func(other side) bool { return other.holds(places) })
	}
}
