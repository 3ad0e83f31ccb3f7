package unfold

import (
	"slices"

	"gamp/api"
)

// face is a square by the middle of its cell and its normal. It has four sides, numbered from 0 on: right, up, left and down.
type face struct {
	cell   point
	normal direction
}

// sides returns the directions of the sides.
func (f face) sides() [4]direction {
	right, up := frames[f.normal][0], frames[f.normal][1]
	return [4]direction{right, up, right.opposite(), up.opposite()}
}

// edges returns the middles of the edges at the sides.
func (f face) edges() [4]point {
	var edges [4]point
	for i, d := range f.sides() {
		edges[i] = f.cell.to(f.normal).to(d)
	}
	return edges
}

// corners returns the corner points, each between the edge at a side and the next one.
func (f face) corners() [4]point {
	corners, sides := f.edges(), f.sides()
	for i := range corners {
		corners[i] = corners[i].to(sides[(i+1)%4])
	}
	return corners
}

// meets returns the sides at which two faces have an edge in common; two squares have no more than one.
func (f face) meets(g face) (int, int, bool) {
	edges := g.edges()
	for i, edge := range f.edges() {
		if j := slices.Index(edges[:], edge); j >= 0 {
			return i, j, true
		}
	}
	return 0, 0, false
}

// joint also has the sides of its two faces at which their common edge lies.
type joint struct {
	api.Pair
	sideA, sideB int
}

func pairsOf(joints []joint) []api.Pair {
	var pairs []api.Pair
	for _, j := range joints {
		pairs = append(pairs, j.Pair)
	}
	return pairs
}
