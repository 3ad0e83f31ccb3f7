package spring

import (
	"slices"

	"gamp/api"
)

// link is a spring whose Num has been read.
type link struct {
	a, b int
	k    ratio
}

// mesh is a network in which parallel springs are one, and from which nodes have been dropped. All stiffnesses are above 0.
type mesh struct {
	size      int
	stiffness map[api.Pair]ratio
}

// arm is a spring from the middle of a star to one of its ends.
type arm struct {
	to int
	k  ratio
}

// star is what connected a dropped node with the others, and the sum of the stiffnesses.
type star struct {
	arms []arm
	sum  ratio
}

// fold joins the elements of a list, one after the other, to what it starts with.
func fold[Element, Whole any](list []Element, start Whole, join func(Whole, Element) Whole) Whole {
	for _, element := range list {
		start = join(start, element)
	}
	return start
}

func meshOf(n int, links []link) mesh {
	return fold(links, mesh{n, map[api.Pair]ratio{}}, mesh.with)
}

// with adds a spring to the mesh itself.
func (m mesh) with(l link) mesh {
	pair := pairOf(l.a, l.b)
	if k, found := m.stiffness[pair]; found {
		l.k = k.plus(l.k)
	}
	m.stiffness[pair] = l.k
	return m
}

func pairOf(a, b int) api.Pair {
	return api.Pair{A: min(a, b), B: max(a, b)}
}

// arms returns the springs at a node, by their other ends.
func (m mesh) arms(node int) []arm {
	var arms []arm
	for i := range m.size {
		if k, found := m.stiffness[pairOf(i, node)]; found {
			arms = append(arms, arm{i, k})
		}
	}
	return arms
}

func (m mesh) connected() bool {
	reached := []int{0}
	for i := 0; i < len(reached); i++ {
		for _, end := range m.arms(reached[i]) {
			if !slices.Contains(reached, end.to) {
				reached = append(reached, end.to)
			}
		}
	}
	return len(reached) == m.size
}

// drop takes a node out of the mesh itself: the mesh of its ends takes the place of its star.
func (m mesh) drop(node int) star {
	arms := m.arms(node)
	sum := fold(arms, whole(0), func(sum ratio, end arm) ratio { return sum.plus(end.k) })
	for i, end := range arms {
		delete(m.stiffness, pairOf(node, end.to))
		share := end.k.over(sum)
		for _, other := range arms[:i] {
			m.with(link{end.to, other.to, share.times(other.k)})
		}
	}
	return star{arms, sum}
}

// trees returns the sum of the weights of all spanning trees. In it each node that is dropped counts as a factor, because dropping is a step of the elimination that finds Kirchhoff's determinant.
func (m mesh) trees() ratio {
	var stars []star
	for node := m.size - 1; node > 0; node-- {
		stars = append(stars, m.drop(node))
	}
	return fold(stars, whole(1), func(product ratio, s star) ratio { return product.times(s.sum) })
}

// between returns the effective stiffness between two nodes of a mesh that is connected: that of the spring to which all others come down.
func (m mesh) between(a, b int) ratio {
	for node := range m.size {
		if node != a && node != b {
			m.drop(node)
		}
	}
	return m.stiffness[pairOf(a, b)]
}

// move returns the displacements under forces whose sum is 0, in a mesh that is connected. A node that is dropped leaves its force to its ends; later it goes where they and its force want it.
func (m mesh) move(forces []ratio) []ratio {
	left := slices.Clone(forces)
	stars := make([]star, m.size)
	for node := m.size - 1; node > 0; node-- {
		s := m.drop(node)
		stars[node] = s
		for _, end := range s.arms {
			share := end.k.over(s.sum)
			left[end.to] = left[end.to].plus(left[node].times(share))
		}
	}
	at := slices.Repeat([]ratio{whole(0)}, m.size)
	for node := 1; node < m.size; node++ {
		s := stars[node]
		pull := fold(s.arms, left[node], func(sum ratio, end arm) ratio { return sum.plus(end.k.times(at[end.to])) })
		at[node] = pull.over(s.sum)
	}
	return at
}

// linksWithout returns the springs by their ends, which are numbered as they are without a node that has been dropped.
func (m mesh) linksWithout(node int) []link {
	var links []link
	for i := range m.size {
		for _, end := range m.arms(i) {
			if i < end.to {
				links = append(links, link{numberWithout(node, i), numberWithout(node, end.to), end.k})
			}
		}
	}
	return links
}

func numberWithout(dropped, node int) int {
	if node > dropped {
		return node - 1
	}
	return node
}
