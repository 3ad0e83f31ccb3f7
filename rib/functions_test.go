package rib_test

import (
	"math/rand"
	"slices"
	"testing"

	"gamp/api"
	"gamp/rib"
)

func equalLists(a, b [][]int) bool {
	return slices.EqualFunc(a, b, slices.Equal[[]int])
}

// The chapter's examples.
func TestExamples(t *testing.T) {
	line := pairs(0, 1, 1, 2)
	if ok, e := rib.Eliminates(3, line, []int{0, 1, 2}); !ok || e != api.OK {
		t.Errorf("Eliminates = %t, %d", ok, e)
	}
	if l, e := rib.Cliques(3, line); e != api.OK || !equalLists(l, [][]int{{0, 1}, {1, 2}}) {
		t.Errorf("Cliques = %v, %d", l, e)
	}
	if ok, e := rib.Matches(3, line, []api.Span{{Low: 0, High: 1}, {Low: 1, High: 2}, {Low: 2, High: 3}}); !ok || e != api.OK {
		t.Errorf("Matches = %t, %d", ok, e)
	}
	four := pairs(0, 1, 1, 2, 2, 3, 0, 3)
	if l, e := rib.Order(4, four); e != api.ErrNone || len(l) != 0 {
		t.Errorf("Order = %v, %d", l, e)
	}
	if ok, e := rib.IsRing(4, four, []int{0, 1, 2, 3}); !ok || e != api.OK {
		t.Errorf("IsRing = %t, %d", ok, e)
	}
	if _, e := rib.Order(7, spider().edges); e != api.OK {
		t.Errorf("Order: %d", e)
	}
	if l, e := rib.Spans(7, spider().edges); e != api.ErrNone || len(l) != 0 {
		t.Errorf("Spans = %v, %d", l, e)
	}
	if l, e := rib.Triple(7, spider().edges); e != api.OK || !slices.Equal(l, []int{2, 4, 6}) {
		t.Errorf("Triple = %v, %d", l, e)
	}
}

// Each graph has an elimination order or a ring.
func TestOrderAndRing(t *testing.T) {
	for _, r := range someGraphs(700) {
		order, e := rib.Order(r.n, r.edges)
		ring, f := rib.Ring(r.n, r.edges)
		switch {
		case e == api.OK && f == api.ErrNone:
			if !r.isPermutation(order) || !r.eliminates(order) || len(ring) != 0 {
				t.Errorf("%v: Order = %v, Ring = %v", r.edges, order, ring)
			}
		case e == api.ErrNone && f == api.OK:
			if !r.isRing(ring) || len(order) != 0 {
				t.Errorf("%v: Order = %v, Ring = %v", r.edges, order, ring)
			}
		default:
			t.Errorf("%v: Order: %d, Ring: %d", r.edges, e, f)
		}
	}
}

func TestEliminates(t *testing.T) {
	for _, r := range someGraphs(0) {
		if r.n > 5 {
			continue
		}
		for order := range permutations(r.n) {
			if ok, e := rib.Eliminates(r.n, r.edges, order); e != api.OK || ok != r.eliminates(order) {
				t.Errorf("Eliminates(%d, %v, %v) = %t, %d", r.n, r.edges, order, ok, e)
			}
		}
	}
	random := rand.New(rand.NewSource(1))
	for _, r := range someGraphs(300) {
		order := random.Perm(r.n)
		if ok, e := rib.Eliminates(r.n, r.edges, order); e != api.OK || ok != r.eliminates(order) {
			t.Errorf("Eliminates(%d, %v, %v) = %t, %d", r.n, r.edges, order, ok, e)
		}
	}
}

// Eliminates of orders that are all right, or wrong only at two nodes.
func TestEliminatesNearly(t *testing.T) {
	wrong := 0
	for _, r := range someGraphs(100) {
		order, e := rib.Order(r.n, r.edges)
		if e != api.OK {
			continue
		}
		for i := range order {
			for j := range i + 1 {
				other := slices.Clone(order)
				other[i], other[j] = other[j], other[i]
				want := r.eliminates(other)
				if ok, e := rib.Eliminates(r.n, r.edges, other); e != api.OK || ok != want {
					t.Errorf("Eliminates(%d, %v, %v) = %t, %d", r.n, r.edges, other, ok, e)
				}
				if !want {
					wrong++
				}
			}
		}
	}
	if wrong < 1000 {
		t.Errorf("only %d wrong orders", wrong)
	}
}

// IsRing of all lists of up to five nodes of small graphs: too short, with nodes twice, with chords, not closed.
func TestIsRing(t *testing.T) {
	graphs := []reference{path(5), cycle(5), complete(4), groups(5, 2), cycle(4), cycle(3), empty(1)}
	for _, r := range append(graphs, slices.Collect(allGraphs(4))...) {
		lists := [][]int{nil}
		for i := 0; i < len(lists); i++ {
			ring := lists[i]
			if ok, e := rib.IsRing(r.n, r.edges, ring); e != api.OK || ok != r.isRing(ring) {
				t.Errorf("IsRing(%d, %v, %v) = %t, %d", r.n, r.edges, ring, ok, e)
			}
			for v := 0; v < r.n && len(ring) < 5; v++ {
				lists = append(lists, append(slices.Clone(ring), v))
			}
		}
	}
}

func TestIsRingOfMany(t *testing.T) {
	for n := 4; n <= api.MaxRibs; n++ {
		r := cycle(n)
		var ring []int
		for v := range n {
			ring = append(ring, v)
		}
		for turn := range n {
			turned := slices.Concat(ring[turn:], ring[:turn])
			for range 2 {
				if ok, e := rib.IsRing(n, r.edges, turned); e != api.OK || !ok {
					t.Errorf("IsRing(%d, %v, %v) = %t, %d", n, r.edges, turned, ok, e)
				}
				slices.Reverse(turned)
			}
			if ok, e := rib.IsRing(n, r.edges, turned[1:]); e != api.OK || ok {
				t.Errorf("IsRing(%d, %v, %v) = %t, %d", n, r.edges, turned[1:], ok, e)
			}
		}
		if ok, e := rib.IsRing(n, r.edges, slices.Concat(ring, ring)); e != api.OK || ok {
			t.Errorf("IsRing twice around %d nodes = %t, %d", n, ok, e)
		}
		for _, chord := range path(n).complement().edges {
			edges := append(slices.Clone(r.edges), chord)
			if ok, e := rib.IsRing(n, edges, ring); chord != (api.Pair{A: 0, B: n - 1}) && (e != api.OK || ok) {
				t.Errorf("IsRing(%d, %v, %v) = %t, %d", n, edges, ring, ok, e)
			}
		}
	}
	if ok, e := rib.IsRing(10, twoRings().edges, []int{0, 1, 2, 3, 4, 5, 6, 7, 8, 9}); e != api.OK || ok {
		t.Errorf("IsRing of two rings = %t, %d", ok, e)
	}
	if ok, e := rib.IsRing(12, cycle(12).edges, make([]int, 100000)); e != api.OK || ok {
		t.Errorf("IsRing of many nodes = %t, %d", ok, e)
	}
}

func TestCliques(t *testing.T) {
	for _, r := range someGraphs(100) {
		want := r.cliques()
		if l, e := rib.Cliques(r.n, r.edges); e != api.OK || !equalLists(l, want) {
			t.Errorf("Cliques(%d, %v) = %v, %d, not %v", r.n, r.edges, l, e, want)
		}
	}
	if l, _ := rib.Cliques(12, groups(12, 3).edges); len(l) != 81 {
		t.Errorf("%d cliques, not 81", len(l))
	}
}

func TestColors(t *testing.T) {
	for _, r := range someGraphs(150) {
		colors, e := rib.Colors(r.n, r.edges)
		if _, want := rib.Order(r.n, r.edges); e != want || e != api.OK && len(colors) != 0 {
			t.Errorf("Colors(%d, %v) = %v, %d", r.n, r.edges, colors, e)
		}
		if e == api.OK && !r.areFewColors(colors) {
			t.Errorf("Colors(%d, %v) = %v", r.n, r.edges, colors)
		}
	}
}

func (r reference) areFewColors(colors []int) bool {
	if len(colors) != r.n || slices.Min(colors) != 0 || slices.Max(colors) != r.fewestColors()-1 {
		return false
	}
	for _, e := range r.edges {
		if colors[e.A] == colors[e.B] {
			return false
		}
	}
	return true
}

func TestApart(t *testing.T) {
	for _, r := range someGraphs(150) {
		set, cliques, e := rib.Apart(r.n, r.edges)
		if _, want := rib.Order(r.n, r.edges); e != want || e != api.OK && len(set)+len(cliques) != 0 {
			t.Errorf("Apart(%d, %v) = %v, %v, %d", r.n, r.edges, set, cliques, e)
		}
		if e == api.OK && !r.areApart(set, cliques) {
			t.Errorf("Apart(%d, %v) = %v, %v", r.n, r.edges, set, cliques)
		}
	}
}

func (r reference) areApart(set []int, cliques [][]int) bool {
	if !r.areRising(set) || !r.isIndependent(set) || len(set) != len(cliques) {
		return false
	}
	for _, clique := range cliques {
		if !r.areRising(clique) || !r.isClique(clique) {
			return false
		}
	}
	for v := range r.n {
		if !slices.Contains(slices.Concat(cliques...), v) {
			return false
		}
	}
	return true
}

func (r reference) areRising(nodes []int) bool {
	for i, v := range nodes {
		if v < 0 || v >= r.n || i > 0 && v <= nodes[i-1] {
			return false
		}
	}
	return true
}

func TestSpans(t *testing.T) {
	intervals := 0
	for _, r := range someGraphs(700) {
		spans, e := rib.Spans(r.n, r.edges)
		if e == api.OK {
			intervals++
			if len(spans) != r.n || !r.matches(spans) {
				t.Errorf("Spans(%d, %v) = %v", r.n, r.edges, spans)
			}
			for _, s := range spans {
				if s.Low < -1000 || s.Low > s.High || s.High > 1000 {
					t.Errorf("Spans(%d, %v) = %v", r.n, r.edges, spans)
				}
			}
			continue
		}
		if e != api.ErrNone || len(spans) != 0 {
			t.Errorf("Spans(%d, %v) = %v, %d", r.n, r.edges, spans, e)
		}
		if _, chordal := rib.Order(r.n, r.edges); chordal == api.OK && r.triple() == nil {
			t.Errorf("no spans for %v, which has no ring and no asteroidal triple", r.edges)
		}
	}
	if intervals < 1000 {
		t.Errorf("only %d interval graphs", intervals)
	}
}

// Spans of graphs that are made of intervals, with many cliques.
func TestSpansOfIntervals(t *testing.T) {
	random := rand.New(rand.NewSource(2))
	for i := range 3000 {
		r := shuffled(intervalGraph(1+i%12, random), random)
		if spans, e := rib.Spans(r.n, r.edges); e != api.OK || !r.matches(spans) {
			t.Errorf("Spans(%d, %v) = %v, %d", r.n, r.edges, spans, e)
		}
	}
}

func TestMatches(t *testing.T) {
	random := rand.New(rand.NewSource(3))
	right := 0
	for i := range 20000 {
		r := anyGraph(1+i%5, random)
		var spans []api.Span
		for range r.n {
			low := random.Intn(6) - 3
			spans = append(spans, api.Span{Low: low, High: low + random.Intn(3)})
		}
		want := r.matches(spans)
		if want {
			right++
		}
		if ok, e := rib.Matches(r.n, r.edges, spans); e != api.OK || ok != want {
			t.Errorf("Matches(%d, %v, %v) = %t, %d", r.n, r.edges, spans, ok, e)
		}
	}
	if right < 1000 {
		t.Errorf("only %d matches", right)
	}
}

// Intervals that only touch, that contain each other, and at the ends of the range.
func TestMatchesAtEnds(t *testing.T) {
	for _, c := range []struct {
		s, u api.Span
		near bool
	}{
		{api.Span{Low: 0, High: 1}, api.Span{Low: 1, High: 2}, true},
		{api.Span{Low: 0, High: 1}, api.Span{Low: 2, High: 3}, false},
		{api.Span{Low: 0, High: 9}, api.Span{Low: 4, High: 5}, true},
		{api.Span{Low: 4, High: 4}, api.Span{Low: 4, High: 4}, true},
		{api.Span{Low: -1000, High: 1000}, api.Span{Low: 1000, High: 1000}, true},
		{api.Span{Low: -1000, High: -1000}, api.Span{Low: -999, High: 1000}, false},
	} {
		for _, spans := range [][]api.Span{{c.s, c.u}, {c.u, c.s}} {
			if ok, e := rib.Matches(2, pairs(0, 1), spans); e != api.OK || ok != c.near {
				t.Errorf("Matches of neighbours, %v: %t, %d", spans, ok, e)
			}
			if ok, e := rib.Matches(2, nil, spans); e != api.OK || ok == c.near {
				t.Errorf("Matches of others, %v: %t, %d", spans, ok, e)
			}
		}
	}
}

func TestTriple(t *testing.T) {
	triples := 0
	for _, r := range someGraphs(300) {
		want := r.triple()
		code := api.ErrNone
		if want != nil {
			code = api.OK
			triples++
		}
		if l, e := rib.Triple(r.n, r.edges); e != code || !slices.Equal(l, want) {
			t.Errorf("Triple(%d, %v) = %v, %d, not %v", r.n, r.edges, l, e, want)
		}
	}
	if triples < 100 {
		t.Errorf("only %d asteroidal triples", triples)
	}
}

// Graphs that are not chordal have asteroidal triples, too.
func TestTripleOfRings(t *testing.T) {
	for n := 3; n <= api.MaxRibs; n++ {
		l, e := rib.Triple(n, cycle(n).edges)
		if n < 6 && (e != api.ErrNone || len(l) != 0) || n >= 6 && (e != api.OK || !slices.Equal(l, []int{0, 2, 4})) {
			t.Errorf("Triple of a cycle of %d = %v, %d", n, l, e)
		}
	}
	if l, e := rib.Triple(6, net().edges); e != api.OK || !slices.Equal(l, []int{3, 4, 5}) {
		t.Errorf("Triple of a net = %v, %d", l, e)
	}
	if l, e := rib.Triple(6, sun().edges); e != api.OK || !slices.Equal(l, []int{3, 4, 5}) {
		t.Errorf("Triple of a sun = %v, %d", l, e)
	}
}
