package rib

import (
	"cmp"
	"slices"

	"gamp/api"
)

// treeOf returns a clique tree of the maximal cliques of a chordal graph: a spanning tree whose pairs have as many nodes in common as possible (Bernstein and Goodman).
func treeOf(cliques []set) []api.Pair {
	var pairs []api.Pair
	for b := range cliques {
		for a := range b {
			pairs = append(pairs, api.Pair{A: a, B: b})
		}
	}
	common := func(p api.Pair) int {
		return (cliques[p.A] & cliques[p.B]).count()
	}
	slices.SortStableFunc(pairs, func(p, q api.Pair) int {
		return cmp.Compare(common(q), common(p))
	})
	var tree []api.Pair
	parts := partsOf(len(cliques))
	for _, p := range pairs {
		if parts.join(p) {
			tree = append(tree, p)
		}
	}
	return tree
}

// isTree reports whether pairs form a spanning tree of cliques.
func isTree(cliques []set, tree []api.Pair) bool {
	if len(tree) != len(cliques)-1 {
		return false
	}
	parts := partsOf(len(cliques))
	for _, p := range tree {
		if p.A < 0 || p.A >= p.B || p.B >= len(cliques) || !parts.join(p) {
			return false
		}
	}
	return true
}

// staysTogether reports whether for each node the cliques that contain it are connected by pairs of a spanning tree. Since there is no cycle, each such pair leaves one part fewer.
func (g graph) staysTogether(cliques []set, tree []api.Pair) bool {
	for v := range g {
		parts := 0
		for _, clique := range cliques {
			if clique.has(v) {
				parts++
			}
		}
		for _, p := range tree {
			if (cliques[p.A] & cliques[p.B]).has(v) {
				parts--
			}
		}
		if parts != 1 {
			return false
		}
	}
	return true
}

// parts is the part of each clique while cliques are joined.
type parts []int

func partsOf(cliques int) parts {
	var p parts
	for i := range cliques {
		p = append(p, i)
	}
	return p
}

// join joins the parts of two cliques, and reports whether they were not one already.
func (p parts) join(pair api.Pair) bool {
	from, to := p[pair.A], p[pair.B]
	for i, part := range p {
		if part == from {
			p[i] = to
		}
	}
	return from != to
}
