package rib_test

import (
	"math/rand"
	"slices"

	"gamp/api"
)

func pairs(ends ...int) []api.Pair {
	var pairs []api.Pair
	for i := 0; i < len(ends); i += 2 {
		pairs = append(pairs, api.Pair{A: ends[i], B: ends[i+1]})
	}
	return pairs
}

// allGraphs yields all graphs of n nodes.
func allGraphs(n int) func(yield func(reference) bool) {
	return func(yield func(reference) bool) {
		all := complete(n).edges
		for s := range 1 << len(all) {
			var edges []api.Pair
			for i, e := range all {
				if s>>i&1 == 1 {
					edges = append(edges, e)
				}
			}
			if !yield(referenceOf(n, edges)) {
				return
			}
		}
	}
}

func complete(n int) reference {
	return graphFrom(n, func(a, b int) bool { return true })
}

func empty(n int) reference {
	return referenceOf(n, nil)
}

func path(n int) reference {
	return graphFrom(n, func(a, b int) bool { return b == a+1 })
}

func cycle(n int) reference {
	return graphFrom(n, func(a, b int) bool { return b == a+1 || a == 0 && b == n-1 })
}

// star has node 0 in its middle.
func star(n int) reference {
	return graphFrom(n, func(a, b int) bool { return a == 0 })
}

// groups has groups of a size of which no two nodes are neighbours, while all others are: with groups of three it has as many maximal cliques as a graph can.
func groups(n, size int) reference {
	return graphFrom(n, func(a, b int) bool { return a/size != b/size })
}

// spider is the graph of the chapter's third example.
func spider() reference {
	return referenceOf(7, pairs(0, 1, 1, 2, 0, 3, 3, 4, 0, 5, 5, 6))
}

// net is a triangle with a node at each of its nodes.
func net() reference {
	return referenceOf(6, pairs(0, 1, 1, 2, 0, 2, 0, 3, 1, 4, 2, 5))
}

// sun is a triangle with a node at each of its edges.
func sun() reference {
	return referenceOf(6, pairs(0, 1, 1, 2, 0, 2, 0, 3, 1, 3, 1, 4, 2, 4, 0, 5, 2, 5))
}

// twoRings has the nodes of two cycles, all of which have two neighbours.
func twoRings() reference {
	return graphFrom(10, func(a, b int) bool { return a/5 == b/5 && (b == a+1 || b == a+4) })
}

func namedGraphs() []reference {
	graphs := []reference{spider(), net(), sun(), twoRings(), groups(12, 3), groups(12, 2), groups(12, 4), groups(12, 6), groups(11, 3)}
	for n := 1; n <= api.MaxRibs; n++ {
		graphs = append(graphs, complete(n), empty(n), path(n), star(n))
		if n >= 3 {
			graphs = append(graphs, cycle(n), cycle(n).complement(), path(n).complement())
		}
	}
	return graphs
}

// shuffled returns the graph with its nodes numbered in another order, and its edges in another order.
func shuffled(r reference, random *rand.Rand) reference {
	order := random.Perm(r.n)
	s := graphFrom(r.n, func(a, b int) bool { return r.near[order[a]][order[b]] })
	random.Shuffle(len(s.edges), func(i, j int) { s.edges[i], s.edges[j] = s.edges[j], s.edges[i] })
	return s
}

// anyGraph returns a graph with about one in so many edges left out, or there.
func anyGraph(n int, random *rand.Rand) reference {
	parts, wanted := 1+random.Intn(6), random.Intn(2) == 0
	return graphFrom(n, func(a, b int) bool { return (random.Intn(parts) == 0) == wanted })
}

// chordalGraph returns a graph of which each node is neighbour of some nodes of one clique of those before it.
func chordalGraph(n int, random *rand.Rand) reference {
	near := make([][]int, n)
	for v := 1; v < n; v++ {
		base := random.Intn(v)
		for _, w := range append(near[base], base) {
			if random.Intn(4) > 0 {
				near[v] = append(near[v], w)
			}
		}
	}
	return shuffled(graphFrom(n, func(a, b int) bool { return slices.Contains(near[b], a) }), random)
}

// intervalGraph returns the graph of some intervals.
func intervalGraph(n int, random *rand.Rand) reference {
	var spans []api.Span
	for range n {
		low := random.Intn(20)
		spans = append(spans, api.Span{Low: low, High: low + random.Intn(8)})
	}
	return graphFrom(n, func(a, b int) bool { return haveCommon(spans[a], spans[b]) })
}

// someGraphs returns all graphs of at most 5 nodes, those with a name, in several orders, and so many of each other kind of up to 12 nodes.
func someGraphs(count int) []reference {
	var graphs []reference
	for n := 1; n <= 5; n++ {
		graphs = slices.AppendSeq(graphs, allGraphs(n))
	}
	random := rand.New(rand.NewSource(4))
	for _, r := range namedGraphs() {
		graphs = append(graphs, r, shuffled(r, random), shuffled(r, random))
	}
	for i := range count {
		n := 6 + i%7
		graphs = append(graphs, anyGraph(n, random), chordalGraph(n, random), intervalGraph(n, random))
	}
	return graphs
}
