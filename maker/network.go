package maker

import (
	"gamp/api"
	"gamp/spring"
)

// minKnots is the least number of nodes of a network.
const minKnots = 2

func (m *Maker) setKnots(in input) (string, api.Errno) {
	n := in.numbers[0]
	if !isBetween(n, minKnots, api.MaxKnots) {
		return "", api.ErrArg
	}
	m.knots, m.springs = n, nil
	return "", api.OK
}

func (m *Maker) addSpring(in input) (string, api.Errno) {
	s := api.Spring{A: in.numbers[0], B: in.numbers[1], K: api.Num(in.texts[0])}
	return "", add(&m.springs, s, api.MaxSprings)
}

func (m *Maker) stiff(in input) (string, api.Errno) {
	a, b := in.numbers[0], in.numbers[1]
	stiffness, e := spring.Between(m.knots, m.springs, a, b)
	if e != api.OK {
		return "", e
	}
	flow, e := spring.Flow(m.knots, m.springs, a, b)
	return texts("stiff", stiffness) + texts("flow", flow...), e
}

func (m *Maker) trees(input) (string, api.Errno) {
	weight, e := spring.Trees(m.knots, m.springs)
	return texts("trees", weight), e
}
