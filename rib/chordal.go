package rib

import "slices"

// eliminated eliminates nodes of a set for as long as one of those that are left can be eliminated. These are all nodes of the set exactly if they are a chordal graph, whichever is chosen.
func (g graph) eliminated(left set) []int {
	var order []int
	for {
		v, found := g.eliminable(left)
		if !found {
			return order
		}
		order = append(order, v)
		left &^= setOf(v)
	}
}

// eliminable returns the least node of a set whose neighbours in the set are a clique.
func (g graph) eliminable(left set) (int, bool) {
	for v := range g {
		if left.has(v) && g.isClique(g[v]&left) {
			return v, true
		}
	}
	return 0, false
}

func (g graph) isEliminatedBy(order []int) bool {
	left := g.nodes()
	for _, v := range order {
		if !g.isClique(g[v] & left) {
			return false
		}
		left &^= setOf(v)
	}
	return true
}

func (g graph) isChordal(s set) bool {
	return len(g.eliminated(s)) == s.count()
}

// ring returns a ring of a graph that is not chordal. It leaves out every node without which the others are still not chordal: such others contain a ring, and in the end they contain nothing else.
func (g graph) ring() []int {
	left := g.nodes()
	for v := range g {
		if rest := left &^ setOf(v); !g.isChordal(rest) {
			left = rest
		}
	}
	return g.around(left)
}

// around returns the nodes of a ring in the order of the cycle.
func (g graph) around(ring set) []int {
	var order []int
	for next := ring; next != 0; {
		v := next.least()
		order = append(order, v)
		ring &^= setOf(v)
		next = g[v] & ring
	}
	return order
}

func (g graph) isRing(ring []int) bool {
	n, nodes := len(ring), setOf(ring...)
	if n < 4 || nodes.count() < n {
		return false
	}
	for i, v := range ring {
		before, after := ring[(i+n-1)%n], ring[(i+1)%n]
		if g[v]&nodes != setOf(before, v, after) {
			return false
		}
	}
	return true
}

// colors gives each node, the last one of an elimination order first, the least colour that its neighbours leave. They are a clique, so there are no more colours than nodes in some clique.
func (g graph) colors(order []int) []int {
	colors := make([]int, len(g))
	var coloured set
	for _, v := range slices.Backward(order) {
		var taken set
		for _, w := range (g[v] & coloured).list() {
			taken |= setOf(colors[w])
		}
		colors[v] = (^taken).least()
		coloured |= setOf(v)
	}
	return colors
}

// apart takes the first node of an elimination order that is not covered, and covers it and its neighbours, until all are covered.
func (g graph) apart(order []int) ([]int, [][]int) {
	var independent set
	var cover [][]int
	left := g.nodes()
	for _, v := range order {
		if left.has(v) {
			independent |= setOf(v)
			cover = append(cover, (g[v] & left).list())
			left &^= g[v]
		}
	}
	return independent.list(), cover
}
