package rib

import (
	"slices"

	"gamp/api"
)

// farthest is the greatest distance of an end of a span from 0.
const farthest = 1000

func areSpans(spans []api.Span) bool {
	for _, s := range spans {
		if s.Low < -farthest || s.Low > s.High || s.High > farthest {
			return false
		}
	}
	return true
}

func (g graph) matches(spans []api.Span) bool {
	for a, s := range spans {
		for b, t := range spans {
			if g[a].has(b) != (s.Low <= t.High && t.Low <= s.High) {
				return false
			}
		}
	}
	return true
}

// spansIn returns the places of each node in a row of cliques, from its first one to its last one.
func (g graph) spansIn(row []set) []api.Span {
	spans := make([]api.Span, len(g))
	for v := range g {
		first := slices.IndexFunc(row, func(clique set) bool { return clique.has(v) })
		spans[v] = api.Span{Low: first, High: first}
		for i, clique := range row {
			if clique.has(v) {
				spans[v].High = i
			}
		}
	}
	return spans
}

// rowOf puts the maximal cliques of a chordal graph, which are not more than its nodes, in a row such that those of each node follow each other. It can exactly if the graph is an interval graph (Gilmore and Hoffman).
func rowOf(cliques []set) ([]set, bool) {
	return seating{cliques, map[set]bool{}}.after(0)
}

// seating is a search for a row. It keeps the sets of cliques, by their numbers, that cannot be the first ones of a row, because there are many ways to the same set.
type seating struct {
	cliques []set
	failed  map[set]bool
}

// after returns the rest of a row that begins with a set of cliques, in whatever order.
func (s seating) after(seated set) ([]set, bool) {
	if seated.count() == len(s.cliques) {
		return nil, true
	}
	if s.failed[seated] {
		return nil, false
	}
	waiting := s.waiting(seated)
	for i, clique := range s.cliques {
		if seated.has(i) || !clique.contains(waiting) {
			continue
		}
		if row, found := s.after(seated | setOf(i)); found {
			return append([]set{clique}, row...), true
		}
	}
	s.failed[seated] = true
	return nil, false
}

// waiting returns the nodes that cliques of a set contain and others, too: the next clique must contain them all.
func (s seating) waiting(seated set) set {
	var before, after set
	for i, clique := range s.cliques {
		if seated.has(i) {
			before |= clique
		} else {
			after |= clique
		}
	}
	return before & after
}
