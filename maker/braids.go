package maker

import (
	"gamp/api"
	"gamp/strap"
)

// minStrands is the least number of strands of a braid.
const minStrands = 2

func (m *Maker) setStrands(in input) (string, api.Errno) {
	n := in.numbers[0]
	if !isBetween(n, minStrands, api.MaxStrands) {
		return "", api.ErrArg
	}
	m.strands, m.braids = n, map[string][]int{}
	return "", api.OK
}

func (m *Maker) setBraid(in input) (string, api.Errno) {
	if _, e := strap.Perm(m.strands, in.numbers); e != api.OK {
		return "", e
	}
	return "", put(m.braids, in.texts[0], in.numbers)
}

func (m *Maker) normal(in input) (string, api.Errno) {
	word, known := m.braids[in.texts[0]]
	if !known {
		return "", api.ErrName
	}
	b, e := strap.Normal(m.strands, word)
	return numbers("power", b.Power) + rows("factor", b.Factors), e
}

func (m *Maker) equal(in input) (string, api.Errno) {
	a, knownA := m.braids[in.texts[0]]
	b, knownB := m.braids[in.texts[1]]
	if !knownA || !knownB {
		return "", api.ErrName
	}
	same, e := strap.Equal(m.strands, a, b)
	return yesOrNo(same), e
}

func (m *Maker) alexander(in input) (string, api.Errno) {
	word, known := m.braids[in.texts[0]]
	if !known {
		return "", api.ErrName
	}
	loops, e := strap.Loops(m.strands, word)
	if e != api.OK {
		return "", e
	}
	p, e := strap.Alexander(m.strands, word)
	return numbers("loops", loops) + numbers("alexander", p.Coef...), e
}
