package maker

import (
	"gamp/api"
	"gamp/catch"
)

func (m *Maker) setRule(in input) (string, api.Errno) {
	if e := catch.Check(in.texts[1]); e != api.OK {
		return "", e
	}
	return "", put(m.rules, in.texts[0], in.texts[1])
}

func (m *Maker) matches(in input) (string, api.Errno) {
	rule, known := m.rules[in.texts[0]]
	if !known {
		return "", api.ErrName
	}
	label := ""
	if len(in.texts) > 1 {
		label = in.texts[1]
	}
	allowed, e := catch.Match(rule, label)
	return yesOrNo(allowed), e
}

func (m *Maker) same(in input) (string, api.Errno) {
	a, knownA := m.rules[in.texts[0]]
	b, knownB := m.rules[in.texts[1]]
	if !knownA || !knownB {
		return "", api.ErrName
	}
	same, label, e := catch.Same(a, b)
	if same || e != api.OK {
		return yesOrNo(same), e
	}
	return withLabel("no", label), api.OK
}

func (m *Maker) at(in input) (string, api.Errno) {
	rule, known := m.rules[in.texts[0]]
	if !known {
		return "", api.ErrName
	}
	label, e := catch.At(rule, api.Num(in.texts[1]))
	return withLabel("text", label), e
}

// withLabel is a line with a label, which is no word if it is empty.
func withLabel(first, label string) string {
	if label == "" {
		return texts[string](first)
	}
	return texts(first, label)
}
