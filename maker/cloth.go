package maker

import (
	"strings"

	"gamp/api"
	"gamp/fold"
)

func (m *Maker) setStrip(in input) (string, api.Errno) {
	m.strip = in.numbers
	return "", api.OK
}

func (m *Maker) setVertex(in input) (string, api.Errno) {
	m.vertex = in.numbers
	return "", api.OK
}

// noCreases is written for an empty crease pattern, which would be no word.
const noCreases = "-"

func (m *Maker) layers(in input) (string, api.Errno) {
	order, e := fold.Layers(m.strip, creases(in.texts[0]))
	return numbers("layers", order...), e
}

func (m *Maker) reduce(in input) (string, api.Errno) {
	rest, pattern, e := fold.Reduce(m.strip, creases(in.texts[0]))
	if pattern == "" {
		pattern = noCreases
	}
	return numbers("rest", rest...) + texts("pattern", pattern), e
}

// creases returns the crease pattern that a word stands for.
func creases(word string) string {
	if word == noCreases {
		return ""
	}
	return word
}

func (m *Maker) folds(input) (string, api.Errno) {
	count, e := fold.Count(m.strip)
	return numbers("folds", count), e
}

func (m *Maker) patterns(input) (string, api.Errno) {
	patterns, e := fold.Patterns(m.vertex)
	var lines strings.Builder
	for _, p := range patterns {
		lines.WriteString(texts("pattern", p))
	}
	return lines.String(), e
}
