package maker

import (
	"gamp/api"
	"gamp/pair"
)

func (m *Maker) addPerson(in input) (string, api.Errno) {
	return "", add(&m.people, in.numbers, api.MaxPeople)
}

func (m *Maker) match(input) (string, api.Errno) {
	match, e := pair.Match(m.people)
	if e == api.ErrNone {
		odd, e := pair.Odd(m.people)
		return rows("odd", odd), e
	}
	return numbers("match", match...), e
}
