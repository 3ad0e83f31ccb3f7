package unfold

import (
	"cmp"

	"gamp/api"
)

// direction is one of the six in which a cell has neighbours.
type direction int

const (
	plusX direction = iota
	minusX
	plusY
	minusY
	plusZ
	minusZ
	directions
)

// opposite uses that opposite directions follow each other, an even number first.
func (d direction) opposite() direction {
	return d ^ 1
}

// frames are the directions right and up of faces, by their normals. For all of them, seen from outside, up is a quarter turn anticlockwise from right.
var frames = [directions][2]direction{
	plusX:  {plusY, plusZ},
	minusX: {minusY, plusZ},
	plusY:  {minusX, plusZ},
	minusY: {plusX, plusZ},
	plusZ:  {plusX, plusY},
	minusZ: {plusX, minusY},
}

// point is counted in half units, so that not only corner points have whole coordinates, but also the middles of edges, faces and cells.
type point [3]int

func middleOf(c api.Cell) point {
	return point{2*c.X + 1, 2*c.Y + 1, 2*c.Z + 1}
}

// cell returns the cell of which the point is the middle.
func (p point) cell() api.Cell {
	return api.Cell{X: p[0] / 2, Y: p[1] / 2, Z: p[2] / 2}
}

// to returns the point half a unit away.
func (p point) to(d direction) point {
	if d%2 == 0 {
		p[d/2]++
	} else {
		p[d/2]--
	}
	return p
}

// neighbour returns the middle of a neighbour from that of a cell.
func (p point) neighbour(d direction) point {
	return p.to(d).to(d)
}

func comparePoints(p, q point) int {
	return cmp.Or(cmp.Compare(p[2], q[2]), cmp.Compare(p[1], q[1]), cmp.Compare(p[0], q[0]))
}
