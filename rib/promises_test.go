package rib_test

import (
	"slices"
	"testing"

	"gamp/api"
	"gamp/rib"
)

func isChordal(r reference) bool {
	_, e := rib.Order(r.n, r.edges)
	return e == api.OK
}

func isInterval(r reference) bool {
	_, e := rib.Spans(r.n, r.edges)
	return e == api.OK
}

// G1: exactly one of Order and Ring returns ErrNone; which one, the definition tells, by all orders.
func TestChordal(t *testing.T) {
	for n := 1; n <= 5; n++ {
		for r := range allGraphs(n) {
			_, e := rib.Order(r.n, r.edges)
			_, f := rib.Ring(r.n, r.edges)
			want, other := api.OK, api.ErrNone
			if !r.isChordal() {
				want, other = other, want
			}
			if e != want || f != other {
				t.Errorf("%d, %v: Order: %d, Ring: %d", n, r.edges, e, f)
			}
		}
	}
	for r := range allGraphs(6) {
		order, e := rib.Order(r.n, r.edges)
		ring, f := rib.Ring(r.n, r.edges)
		if (e == api.OK) == (f == api.OK) || e == api.OK && !r.eliminates(order) || f == api.OK && !r.isRing(ring) {
			t.Errorf("%v: Order = %v, %d, Ring = %v, %d", r.edges, order, e, ring, f)
		}
	}
}

// G2: in chordal graphs the fewest colours are the greatest clique, and the greatest independent set is the fewest cliques.
func TestPerfect(t *testing.T) {
	chordal := 0
	for _, r := range someGraphs(150) {
		if !isChordal(r) {
			continue
		}
		chordal++
		c := r.complement()
		colors, _ := rib.Colors(r.n, r.edges)
		set, cliques, _ := rib.Apart(r.n, r.edges)
		if count := slices.Max(colors) + 1; count != r.greatestClique() || count != r.fewestColors() {
			t.Errorf("%v: Colors = %v, but the greatest clique has %d", r.edges, colors, r.greatestClique())
		}
		if len(set) != c.greatestClique() || len(cliques) != c.fewestColors() {
			t.Errorf("%v: Apart = %v, %v, but the greatest set has %d", r.edges, set, cliques, c.greatestClique())
		}
	}
	if chordal < 1000 {
		t.Errorf("only %d chordal graphs", chordal)
	}
}

// G3: a chordal graph has at most n maximal cliques, which others need not keep to.
func TestFewCliques(t *testing.T) {
	for _, r := range someGraphs(500) {
		cliques, _ := rib.Cliques(r.n, r.edges)
		if isChordal(r) && len(cliques) > r.n {
			t.Errorf("Cliques(%d, %v) = %v", r.n, r.edges, cliques)
		}
	}
}

// G4: a graph has a clique tree exactly if it is chordal.
func TestTrees(t *testing.T) {
	for n := 1; n <= 5; n++ {
		for r := range allGraphs(n) {
			cliques, _ := rib.Cliques(n, r.edges)
			if len(cliques) > 5 {
				continue
			}
			has := false
			for tree := range choices(complete(len(cliques)).edges, len(cliques)-1) {
				if ok, _ := rib.IsTree(n, r.edges, tree); ok {
					has = true
					break
				}
			}
			if has != isChordal(r) {
				t.Errorf("%d, %v: a clique tree: %t, chordal: %t", n, r.edges, has, !has)
			}
		}
	}
}

// G5: interval graphs are chordal and have no asteroidal triple; which are, the definition tells, by all intervals.
func TestIntervals(t *testing.T) {
	for n := 1; n <= 6; n++ {
		for r := range allGraphs(n) {
			if n == 6 && !r.isSorted() {
				continue
			}
			_, e := rib.Triple(n, r.edges)
			if is := r.isInterval(); is != isInterval(r) || is != (isChordal(r) && e == api.ErrNone) {
				t.Errorf("%d, %v: an interval graph: %t, Spans: %t, Order: %t, Triple: %d", n, r.edges, is, isInterval(r), isChordal(r), e)
			}
		}
	}
	for _, r := range someGraphs(1000) {
		if _, e := rib.Triple(r.n, r.edges); isInterval(r) != (isChordal(r) && e == api.ErrNone) {
			t.Errorf("%d, %v: Spans: %t, Order: %t, Triple: %d", r.n, r.edges, isInterval(r), isChordal(r), e)
		}
	}
}

// isSorted tells whether no node has more neighbours than one before it: all graphs are so with their nodes in some order.
func (r reference) isSorted() bool {
	counts := make([]int, r.n)
	for _, e := range r.edges {
		counts[e.A]--
		counts[e.B]--
	}
	return slices.IsSorted(counts)
}

// G6: nodes that are left out never make a chordal graph not chordal, or an interval graph not one.
func TestParts(t *testing.T) {
	for _, r := range someGraphs(300) {
		for v := 0; r.n > 1 && v < r.n; v++ {
			part := r.without(v)
			if isChordal(r) && !isChordal(part) || isInterval(r) && !isInterval(part) {
				t.Errorf("%d, %v: not any more without %d", r.n, r.edges, v)
			}
		}
	}
}

// P3: no asteroidal triple comes before the first one, whatever the order of the edges.
func TestFirstTriple(t *testing.T) {
	for _, r := range []reference{spider(), net(), sun(), cycle(12), twoRings(), empty(12)} {
		edges := slices.Clone(r.edges)
		want := r.triple()
		for range edges {
			edges = append(edges[1:], edges[0])
			if l, _ := rib.Triple(r.n, edges); !slices.Equal(l, want) {
				t.Errorf("Triple(%d, %v) = %v, not %v", r.n, edges, l, want)
			}
		}
	}
}
