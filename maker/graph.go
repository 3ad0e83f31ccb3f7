package maker

import (
	"gamp/api"
	"gamp/rib"
)

const (
	minRibs     = 1
	maxMeetings = 66
)

func (m *Maker) setRibs(in input) (string, api.Errno) {
	n := in.numbers[0]
	if !isBetween(n, minRibs, api.MaxRibs) {
		return "", api.ErrArg
	}
	m.ribs, m.meetings = n, nil
	return "", api.OK
}

func (m *Maker) addMeeting(in input) (string, api.Errno) {
	a, b := in.numbers[0], in.numbers[1]
	return "", add(&m.meetings, api.Pair{A: min(a, b), B: max(a, b)}, maxMeetings)
}

func (m *Maker) chordal(input) (string, api.Errno) {
	_, e := rib.Order(m.ribs, m.meetings)
	return existence(e)
}

func (m *Maker) interval(input) (string, api.Errno) {
	_, e := rib.Spans(m.ribs, m.meetings)
	if e != api.ErrNone {
		return existence(e)
	}
	// A graph that is not chordal may have a triple besides, which is not what the question is about.
	if _, e = rib.Order(m.ribs, m.meetings); e != api.OK {
		return yesOrNo(false), api.OK
	}
	triple, e := rib.Triple(m.ribs, m.meetings)
	return yesOrNo(false) + numbers("triple", triple...), e
}

func (m *Maker) cliques(input) (string, api.Errno) {
	cliques, e := rib.Cliques(m.ribs, m.meetings)
	return rows("clique", cliques), e
}
