package rib_test

import (
	"slices"

	"gamp/api"
)

// What follows reads the chapter's definitions word by word, without a thought for speed.

// reference is a graph with all its pairs of neighbours, in both orders.
type reference struct {
	n     int
	edges []api.Pair
	near  [][]bool
}

func referenceOf(n int, edges []api.Pair) reference {
	r := reference{n: n, edges: edges}
	for range n {
		r.near = append(r.near, make([]bool, n))
	}
	for _, e := range edges {
		r.near[e.A][e.B], r.near[e.B][e.A] = true, true
	}
	return r
}

// graphFrom returns the graph of n nodes of which those are neighbours that a function names.
func graphFrom(n int, near func(a, b int) bool) reference {
	var edges []api.Pair
	for a := range n {
		for b := a + 1; b < n; b++ {
			if near(a, b) {
				edges = append(edges, api.Pair{A: a, B: b})
			}
		}
	}
	return referenceOf(n, edges)
}

// without returns the graph with a node left out.
func (r reference) without(node int) reference {
	skip := func(v int) int {
		if v >= node {
			return v + 1
		}
		return v
	}
	return graphFrom(r.n-1, func(a, b int) bool { return r.near[skip(a)][skip(b)] })
}

func (r reference) isClique(nodes []int) bool {
	for i, v := range nodes {
		for _, w := range nodes[i+1:] {
			if !r.near[v][w] {
				return false
			}
		}
	}
	return len(nodes) > 0
}

func (r reference) isIndependent(nodes []int) bool {
	for i, v := range nodes {
		for _, w := range nodes[i+1:] {
			if r.near[v][w] {
				return false
			}
		}
	}
	return true
}

func (r reference) isPermutation(order []int) bool {
	if len(order) != r.n {
		return false
	}
	for v := range r.n {
		if !slices.Contains(order, v) {
			return false
		}
	}
	return true
}

func (r reference) eliminates(order []int) bool {
	for i, v := range order {
		after := []int{v}
		for _, w := range order[i+1:] {
			if r.near[v][w] {
				after = append(after, w)
			}
		}
		if !r.isClique(after) {
			return false
		}
	}
	return true
}

func (r reference) isChordal() bool {
	for order := range permutations(r.n) {
		if r.eliminates(order) {
			return true
		}
	}
	return false
}

func (r reference) isRing(ring []int) bool {
	if len(ring) < 4 {
		return false
	}
	for i, v := range ring {
		for j, w := range ring[:i] {
			consecutive := i == j+1 || i == len(ring)-1 && j == 0
			if v == w || r.near[v][w] != consecutive {
				return false
			}
		}
	}
	return true
}

// subsets yields all sets of nodes but the empty one, each rising.
func (r reference) subsets(yield func([]int) bool) {
	for s := 1; s < 1<<r.n; s++ {
		var nodes []int
		for v := range r.n {
			if s>>v&1 == 1 {
				nodes = append(nodes, v)
			}
		}
		if !yield(nodes) {
			return
		}
	}
}

func (r reference) cliques() [][]int {
	var cliques [][]int
	for nodes := range r.subsets {
		if r.isClique(nodes) && !r.canGrow(nodes) {
			cliques = append(cliques, nodes)
		}
	}
	slices.SortFunc(cliques, slices.Compare[[]int])
	return cliques
}

func (r reference) canGrow(clique []int) bool {
	for v := range r.n {
		if !slices.Contains(clique, v) && r.isClique(append(slices.Clone(clique), v)) {
			return true
		}
	}
	return false
}

// greatestClique returns its size.
func (r reference) greatestClique() int {
	greatest := 0
	for nodes := range r.subsets {
		if len(nodes) > greatest && r.isClique(nodes) {
			greatest = len(nodes)
		}
	}
	return greatest
}

// fewestColors tries all colourings with one colour, then with two, and so on; a new colour is always the next one, since it does not matter which one it is.
func (r reference) fewestColors() int {
	colors := make([]int, r.n)
	var canColor func(v, used, count int) bool
	canColor = func(v, used, count int) bool {
		if v == r.n {
			return true
		}
		for colors[v] = range min(used+1, count) {
			fits := true
			for w := range v {
				fits = fits && !(r.near[v][w] && colors[v] == colors[w])
			}
			if fits && canColor(v+1, max(used, colors[v]+1), count) {
				return true
			}
		}
		return false
	}
	count := 1
	for !canColor(0, 0, count) {
		count++
	}
	return count
}

// complement returns the graph in which those are neighbours that are not: its colours are cliques, its cliques independent sets.
func (r reference) complement() reference {
	return graphFrom(r.n, func(a, b int) bool { return !r.near[a][b] })
}

// isTree tells whether pairs of numbers of the maximal cliques are a clique tree.
func (r reference) isTree(cliques [][]int, tree []api.Pair) bool {
	if len(tree) != len(cliques)-1 {
		return false
	}
	for _, p := range tree {
		if p.A < 0 || p.A >= p.B || p.B >= len(cliques) {
			return false
		}
	}
	if !areConnected(len(cliques), tree, func(int) bool { return true }) {
		return false
	}
	for v := range r.n {
		if !areConnected(len(cliques), tree, func(i int) bool { return slices.Contains(cliques[i], v) }) {
			return false
		}
	}
	return true
}

// areConnected tells whether those of n things that belong are connected by pairs of them.
func areConnected(n int, pairs []api.Pair, belongs func(i int) bool) bool {
	var all []int
	for i := range n {
		if belongs(i) {
			all = append(all, i)
		}
	}
	reached := []int{all[0]}
	for k := 0; k < len(reached); k++ {
		for _, p := range pairs {
			for _, ends := range [][2]int{{p.A, p.B}, {p.B, p.A}} {
				if ends[0] == reached[k] && belongs(ends[1]) && !slices.Contains(reached, ends[1]) {
					reached = append(reached, ends[1])
				}
			}
		}
	}
	return len(reached) == len(all)
}

func haveCommon(s, t api.Span) bool {
	return max(s.Low, t.Low) <= min(s.High, t.High)
}

func (r reference) matches(spans []api.Span) bool {
	for a := range r.n {
		for b := range a {
			if r.near[a][b] != haveCommon(spans[a], spans[b]) {
				return false
			}
		}
	}
	return true
}

// isInterval tries all intervals with ends 0 to n - 1: of others only those ends matter at which an interval begins, and there are n of them.
func (r reference) isInterval() bool {
	var spans []api.Span
	var place func() bool
	place = func() bool {
		v := len(spans)
		if v == r.n {
			return true
		}
		for low := range r.n {
			for high := low; high < r.n; high++ {
				span := api.Span{Low: low, High: high}
				fits := true
				for w, other := range spans {
					fits = fits && r.near[v][w] == haveCommon(span, other)
				}
				if !fits {
					continue
				}
				spans = append(spans, span)
				if place() {
					return true
				}
				spans = spans[:v]
			}
		}
		return false
	}
	return place()
}

// triple returns the first asteroidal triple, if there is one.
func (r reference) triple() []int {
	for a := range r.n {
		for b := a + 1; b < r.n; b++ {
			for c := b + 1; c < r.n; c++ {
				if r.isAsteroidal([]int{a, b, c}) {
					return []int{a, b, c}
				}
			}
		}
	}
	return nil
}

func (r reference) isAsteroidal(triple []int) bool {
	if !r.isIndependent(triple) {
		return false
	}
	for i, third := range triple {
		if !r.hasPath([]int{triple[(i+1)%3]}, triple[(i+2)%3], third) {
			return false
		}
	}
	return true
}

// hasPath tells whether a path can go on to a node without a third one and its neighbours.
func (r reference) hasPath(path []int, to, third int) bool {
	last := path[len(path)-1]
	if last == third || r.near[last][third] {
		return false
	}
	if last == to {
		return true
	}
	for next := range r.n {
		if r.near[last][next] && !slices.Contains(path, next) && r.hasPath(append(slices.Clone(path), next), to, third) {
			return true
		}
	}
	return false
}

// permutations yields all permutations of n elements; each of them only until the next one.
func permutations(n int) func(yield func([]int) bool) {
	return func(yield func([]int) bool) {
		order := make([]int, n)
		for i := range order {
			order[i] = i
		}
		var permute func(from int) bool
		permute = func(from int) bool {
			if from == n {
				return yield(order)
			}
			for i := from; i < n; i++ {
				order[from], order[i] = order[i], order[from]
				wanted := permute(from + 1)
				order[from], order[i] = order[i], order[from]
				if !wanted {
					return false
				}
			}
			return true
		}
		permute(0)
	}
}
