package rib_test

import (
	"slices"
	"testing"

	"gamp/api"
	"gamp/rib"
)

const (
	least = -1 << 63
	most  = 1<<63 - 1
)

// zeroWith fails unless a call returned one error and otherwise zero values.
func zeroWith(t *testing.T, call string, want, got api.Errno, zero bool) {
	t.Helper()
	if got != want || !zero {
		t.Errorf("%s: error %d, not %d; the other results are zero: %t", call, got, want, zero)
	}
}

// invalid fails unless all functions return ErrArg for a graph, whatever the other arguments are.
func invalid(t *testing.T, n int, edges []api.Pair) {
	t.Helper()
	l, e := rib.Order(n, edges)
	zeroWith(t, "Order", api.ErrArg, e, len(l) == 0)
	l, e = rib.Ring(n, edges)
	zeroWith(t, "Ring", api.ErrArg, e, len(l) == 0)
	c, e := rib.Cliques(n, edges)
	zeroWith(t, "Cliques", api.ErrArg, e, len(c) == 0)
	l, e = rib.Colors(n, edges)
	zeroWith(t, "Colors", api.ErrArg, e, len(l) == 0)
	l, c, e = rib.Apart(n, edges)
	zeroWith(t, "Apart", api.ErrArg, e, len(l) == 0 && len(c) == 0)
	p, e := rib.Tree(n, edges)
	zeroWith(t, "Tree", api.ErrArg, e, len(p) == 0)
	s, e := rib.Spans(n, edges)
	zeroWith(t, "Spans", api.ErrArg, e, len(s) == 0)
	l, e = rib.Triple(n, edges)
	zeroWith(t, "Triple", api.ErrArg, e, len(l) == 0)
	for _, list := range [][]int{nil, {0}, {0, 1}, {1, 0}, {-1}, {0, 0}, {least, most}, {0, 1, 2, 3}} {
		ok, e := rib.Eliminates(n, edges, list)
		zeroWith(t, "Eliminates", api.ErrArg, e, !ok)
		ok, e = rib.IsRing(n, edges, list)
		zeroWith(t, "IsRing", api.ErrArg, e, !ok)
	}
	for _, tree := range [][]api.Pair{nil, pairs(0, 1), pairs(least, most)} {
		ok, e := rib.IsTree(n, edges, tree)
		zeroWith(t, "IsTree", api.ErrArg, e, !ok)
	}
	for _, spans := range [][]api.Span{nil, {{}}, {{}, {}}, {{Low: 1}, {}}} {
		ok, e := rib.Matches(n, edges, spans)
		zeroWith(t, "Matches", api.ErrArg, e, !ok)
	}
}

func TestErrArg(t *testing.T) {
	for _, n := range []int{0, -1, least, 13, 14, 16, 17, 64, 65, 1 << 32, 1<<32 + 1, most} {
		invalid(t, n, nil)
		invalid(t, n, []api.Pair{})
		invalid(t, n, pairs(0, 1))
	}
	for _, edges := range [][]api.Pair{
		pairs(0, 0),
		pairs(1, 1),
		pairs(1, 0),
		pairs(-1, 0),
		pairs(-2, -1),
		pairs(0, 2),
		pairs(1, 2),
		pairs(2, 3),
		pairs(0, 64),
		pairs(0, 65),
		pairs(0, 1<<32+1),
		pairs(least, most),
		pairs(least, 1),
		pairs(0, most),
		pairs(most, least),
		pairs(0, 1, 0, 1),
		pairs(0, 1, 1, 0),
		pairs(0, 1, 0, 2),
		pairs(0, 1, 0, 0),
		slices.Repeat(pairs(0, 1), 100000),
	} {
		invalid(t, 2, edges)
	}
	invalid(t, 1, pairs(0, 1))
	invalid(t, 1, pairs(0, 0))
	full := complete(api.MaxRibs).edges
	for _, more := range []api.Pair{{}, full[0], full[65], {A: 11, B: 12}, {A: 11, B: 11}, {A: 11, B: 10}, {A: -1, B: 11}} {
		invalid(t, api.MaxRibs, append(slices.Clone(full), more))
		invalid(t, api.MaxRibs, append([]api.Pair{more}, full...))
		invalid(t, api.MaxRibs, append(pairs(0, 1, 1, 2, 0, 1), more))
	}
	invalid(t, 4, append(cycle(4).edges, cycle(4).edges...))
}

// Edges may be in any order, and the limits themselves are valid.
func TestValid(t *testing.T) {
	for _, r := range []reference{empty(1), empty(12), complete(12), {n: 3, edges: pairs(1, 2, 0, 2, 0, 1)}, {n: 12, edges: pairs(10, 11, 0, 11)}} {
		if _, e := rib.Order(r.n, r.edges); e != api.OK {
			t.Errorf("Order(%d, %v): %d", r.n, r.edges, e)
		}
		if _, e := rib.Triple(r.n, r.edges); e != api.ErrNone {
			t.Errorf("Triple(%d, %v): %d", r.n, r.edges, e)
		}
	}
}

func TestErrFormOfOrders(t *testing.T) {
	for _, edges := range [][]api.Pair{nil, pairs(0, 1, 1, 2), pairs(0, 1, 1, 2, 2, 3, 0, 3)} {
		for _, order := range [][]int{
			nil, {}, {0}, {0, 1, 2}, {0, 1, 2, 3, 3}, {0, 1, 2, 3, 4}, {0, 1, 2, 2}, {0, 0, 2, 3}, {0, 1, 2, 4}, {-1, 0, 1, 2}, {1, 2, 3, 4},
			{0, 1, 2, least}, {0, 1, 2, most}, {0, 1, 2, 64 + 3}, {0, 1, 2, 16 + 3}, make([]int, 4), make([]int, 100000),
		} {
			ok, e := rib.Eliminates(4, edges, order)
			zeroWith(t, "Eliminates", api.ErrForm, e, !ok)
		}
	}
}

// An element that is no node is ErrForm even in a list that is too short or has a node twice; those alone are no errors.
func TestErrFormOfRings(t *testing.T) {
	for _, ring := range [][]int{
		{-1}, {4}, {0, 4}, {0, 1, 2, 4}, {0, 1, 2, -1}, {-1, 1, 2, 3}, {0, 1, 2, 3, 4}, {0, 0, 0, 0, 4}, {least, 1, 2, 3}, {0, 1, 2, most}, {0, 1, 2, 64 + 3},
		append(make([]int, 100000), 4),
	} {
		ok, e := rib.IsRing(4, cycle(4).edges, ring)
		zeroWith(t, "IsRing", api.ErrForm, e, !ok)
	}
	for _, ring := range [][]int{nil, {}, {0}, {0, 1, 2}, {0, 0, 0, 0}, {0, 1, 2, 3, 0}, {0, 1, 0, 1}} {
		ok, e := rib.IsRing(4, cycle(4).edges, ring)
		zeroWith(t, "IsRing", api.OK, e, !ok)
	}
}

func TestErrFormOfSpans(t *testing.T) {
	good := api.Span{Low: -1000, High: 1000}
	if ok, e := rib.Matches(2, pairs(0, 1), []api.Span{good, good}); e != api.OK || !ok {
		t.Errorf("Matches = %t, %d", ok, e)
	}
	for _, edges := range [][]api.Pair{nil, pairs(0, 1)} {
		for _, spans := range [][]api.Span{nil, {}, {good}, {good, good, good}, make([]api.Span, 100000)} {
			ok, e := rib.Matches(2, edges, spans)
			zeroWith(t, "Matches", api.ErrForm, e, !ok)
		}
		for _, bad := range []api.Span{{Low: -1001}, {High: 1001}, {Low: 1}, {Low: 1000, High: 999}, {Low: 1001, High: 1001}, {Low: -1001, High: -1001},
			{Low: least}, {High: most}, {Low: least, High: most}, {Low: most, High: least}} {
			for _, spans := range [][]api.Span{{bad, good}, {good, bad}, {bad, bad}} {
				ok, e := rib.Matches(2, edges, spans)
				zeroWith(t, "Matches", api.ErrForm, e, !ok)
			}
		}
	}
}
