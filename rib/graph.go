package rib

import (
	"slices"

	"gamp/api"
)

// graph is the set of each node and its neighbours. A node belongs to its own set because a set then is a clique exactly if the sets of all its nodes contain it.
type graph []set

// graphOf also reports whether the graph is valid; only then it means something.
func graphOf(n int, edges []api.Pair) (graph, bool) {
	if n < 1 || n > api.MaxRibs {
		return nil, false
	}
	g := make(graph, n)
	for v := range g {
		g[v] = setOf(v)
	}
	for _, edge := range edges {
		if edge.A < 0 || edge.A >= edge.B || edge.B >= n || g[edge.A].has(edge.B) {
			return nil, false
		}
		g[edge.A] |= setOf(edge.B)
		g[edge.B] |= setOf(edge.A)
	}
	return g, true
}

func (g graph) nodes() set {
	return 1<<len(g) - 1
}

func (g graph) areNodes(numbers []int) bool {
	for _, v := range numbers {
		if v < 0 || v >= len(g) {
			return false
		}
	}
	return true
}

func (g graph) isPermutation(order []int) bool {
	return len(order) == len(g) && g.areNodes(order) && setOf(order...) == g.nodes()
}

func (g graph) isClique(s set) bool {
	for v := range g {
		if s.has(v) && !g[v].contains(s) {
			return false
		}
	}
	return true
}

// cliques returns all maximal cliques, in lexicographic order. A set is one exactly if its nodes, and no others, are neighbours of all its other nodes.
func (g graph) cliques() []set {
	var cliques []set
sets:
	for s := range set(1) << len(g) {
		for v := range len(g) {
			if s.has(v) != g[v].contains(s) {
				continue sets
			}
		}
		cliques = append(cliques, s)
	}
	slices.SortFunc(cliques, compareSets)
	return cliques
}

// reached returns the nodes to which there is a path from a node within a set.
func (g graph) reached(from int, within set) set {
	reached := setOf(from) & within
	for {
		next := reached
		for v := range g {
			if reached.has(v) {
				next |= g[v] & within
			}
		}
		if next == reached {
			return reached
		}
		reached = next
	}
}

// triple returns the least asteroidal triple, if there is one.
func (g graph) triple() ([]int, bool) {
	for a := range g {
		for b := a + 1; b < len(g); b++ {
			for c := b + 1; c < len(g); c++ {
				if g.connects(a, b, c) && g.connects(a, c, b) && g.connects(b, c, a) {
					return []int{a, b, c}, true
				}
			}
		}
	}
	return nil, false
}

// connects reports whether there is a path that contains neither a third node nor a neighbour of it. Such a path also shows that its ends are no neighbours of the third node.
func (g graph) connects(from, to, third int) bool {
	return g.reached(from, g.nodes()&^g[third]).has(to)
}
