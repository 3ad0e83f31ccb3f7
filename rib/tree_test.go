package rib_test

import (
	"math/rand"
	"slices"
	"testing"

	"gamp/api"
	"gamp/rib"
)

func TestTree(t *testing.T) {
	for _, r := range someGraphs(700) {
		tree, e := rib.Tree(r.n, r.edges)
		if _, want := rib.Order(r.n, r.edges); e != want || e != api.OK && len(tree) != 0 {
			t.Errorf("Tree(%d, %v) = %v, %d", r.n, r.edges, tree, e)
		}
		if e != api.OK {
			continue
		}
		if !r.isTree(r.cliques(), tree) {
			t.Errorf("Tree(%d, %v) = %v", r.n, r.edges, tree)
		}
		if ok, e := rib.IsTree(r.n, r.edges, tree); e != api.OK || !ok {
			t.Errorf("IsTree(%d, %v, %v) = %t, %d", r.n, r.edges, tree, ok, e)
		}
	}
}

// choices yields all lists of so many pairs, each pair in any place and any number of times; each list only until the next one.
func choices(from []api.Pair, count int) func(yield func([]api.Pair) bool) {
	return func(yield func([]api.Pair) bool) {
		list := make([]api.Pair, count)
		var choose func(at int) bool
		choose = func(at int) bool {
			if at == count {
				return yield(list)
			}
			for _, list[at] = range from {
				if !choose(at + 1) {
					return false
				}
			}
			return true
		}
		choose(0)
	}
}

// All lists of pairs, also too few and too many, of the graphs with at most four cliques.
func TestIsTree(t *testing.T) {
	right, wrong := 0, 0
	graphs := slices.Concat(slices.Collect(allGraphs(2)), slices.Collect(allGraphs(3)), slices.Collect(allGraphs(4)))
	for _, r := range append(graphs, path(5), star(5), empty(1), complete(12), sun(), groups(12, 6), spider().without(6)) {
		cliques := r.cliques()
		if len(cliques) > 4 {
			continue
		}
		for count := range len(cliques) + 1 {
			for tree := range choices(complete(len(cliques)).edges, count) {
				want := r.isTree(cliques, tree)
				if want {
					right++
				} else {
					wrong++
				}
				if ok, e := rib.IsTree(r.n, r.edges, tree); e != api.OK || ok != want {
					t.Errorf("IsTree(%d, %v, %v) = %t, %d", r.n, r.edges, tree, ok, e)
				}
			}
		}
	}
	if right < 100 || wrong < 1000 {
		t.Errorf("only %d trees, and %d that are not", right, wrong)
	}
}

// Trees of which one pair is another one, or not a pair of cliques at all.
func TestIsTreeNearly(t *testing.T) {
	random := rand.New(rand.NewSource(5))
	right := 0
	for i := range 150 {
		r := chordalGraph(2+i%11, random)
		tree, _ := rib.Tree(r.n, r.edges)
		cliques := r.cliques()
		last := len(cliques)
		others := append(complete(last).edges, pairs(-1, 0, 0, 0, 1, 0, 0, last, last, last+1, -2, -1, -1, last, least, most, most, least, 0, most, least, 0)...)
		for at := range tree {
			for _, p := range others {
				other := slices.Clone(tree)
				other[at] = p
				want := r.isTree(cliques, other)
				if want {
					right++
				}
				if ok, e := rib.IsTree(r.n, r.edges, other); e != api.OK || ok != want {
					t.Errorf("IsTree(%d, %v, %v) = %t, %d", r.n, r.edges, other, ok, e)
				}
			}
		}
	}
	if right < 100 {
		t.Errorf("only %d trees", right)
	}
}

// IsTree has no ErrForm: whatever is no clique tree is not one.
func TestIsTreeMalformed(t *testing.T) {
	for _, tree := range [][]api.Pair{nil, {}, pairs(0, 0), pairs(1, 0), pairs(0, 2), pairs(-1, 0), pairs(most, least), pairs(0, 1, 0, 1), make([]api.Pair, 100000)} {
		if ok, e := rib.IsTree(3, path(3).edges, tree); e != api.OK || ok {
			t.Errorf("IsTree of a path, %v: %t, %d", tree, ok, e)
		}
	}
	for _, tree := range [][]api.Pair{pairs(0, 1), pairs(0, 0), pairs(-1, 0)} {
		if ok, e := rib.IsTree(3, complete(3).edges, tree); e != api.OK || ok {
			t.Errorf("IsTree of a triangle, %v: %t, %d", tree, ok, e)
		}
	}
	if ok, e := rib.IsTree(3, complete(3).edges, nil); e != api.OK || !ok {
		t.Errorf("IsTree of a triangle, which is one clique: %t, %d", ok, e)
	}
	for _, tree := range [][]api.Pair{pairs(0, 1, 0, 2), pairs(0, 2, 1, 2), pairs(1, 2, 0, 1)} {
		if ok, e := rib.IsTree(3, nil, tree); e != api.OK || !ok {
			t.Errorf("IsTree of three nodes that are no neighbours, %v: %t, %d", tree, ok, e)
		}
	}
}
