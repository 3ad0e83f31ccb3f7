package unfold

import (
	"slices"

	"gamp/api"
)

// surface is the surface of a solid: its faces and its joints, in order.
type surface struct {
	faces  []face
	joints []joint
}

// surfaceOf also reports whether the solid is valid; only then the surface means something.
func surfaceOf(solid []api.Cell) (surface, bool) {
	if !areCells(solid) {
		return surface{}, false
	}
	var cells []point
	for _, c := range solid {
		cells = append(cells, middleOf(c))
	}
	if !areConnected(cells) {
		return surface{}, false
	}
	slices.SortFunc(cells, comparePoints)
	faces := facesOf(cells)
	s := surface{faces, jointsOf(faces)}
	return s, s.isClean()
}

func areCells(solid []api.Cell) bool {
	if len(solid) < 1 || len(solid) > api.MaxCells {
		return false
	}
	for _, c := range solid {
		if !isOnGrid(c.X) || !isOnGrid(c.Y) || !isOnGrid(c.Z) {
			return false
		}
	}
	return true
}

func isOnGrid(coordinate int) bool {
	return coordinate >= 0 && coordinate < api.MaxGrid
}

// areConnected reports whether the cells are connected by neighbours and none of them is there twice: a cell is reached only once.
func areConnected(cells []point) bool {
	reached := []point{cells[0]}
	for i := 0; i < len(reached); i++ {
		for d := range directions {
			next := reached[i].neighbour(d)
			if slices.Contains(cells, next) && !slices.Contains(reached, next) {
				reached = append(reached, next)
			}
		}
	}
	return len(reached) == len(cells)
}

func facesOf(cells []point) []face {
	var faces []face
	for _, cell := range cells {
		for d := range directions {
			if !slices.Contains(cells, cell.neighbour(d)) {
				faces = append(faces, face{cell, d})
			}
		}
	}
	return faces
}

func jointsOf(faces []face) []joint {
	var joints []joint
	for a, f := range faces {
		for b := a + 1; b < len(faces); b++ {
			if sideA, sideB, found := f.meets(faces[b]); found {
				joints = append(joints, joint{api.Pair{A: a, B: b}, sideA, sideB})
			}
		}
	}
	return joints
}

// isClean reports whether each edge belongs to exactly two faces.
func (s surface) isClean() bool {
	for _, faces := range s.facesAt(face.edges) {
		if faces != 2 {
			return false
		}
	}
	return true
}

// facesAt returns how many faces each edge, or each corner point, belongs to.
func (s surface) facesAt(pointsOf func(face) [4]point) map[point]int {
	count := map[point]int{}
	for _, f := range s.faces {
		for _, p := range pointsOf(f) {
			count[p]++
		}
	}
	return count
}

// unfold lays the surface flat along joints, and reports whether they are a spanning tree.
func (s surface) unfold(tree []api.Pair) (sheet, bool) {
	if len(tree) != len(s.faces)-1 {
		return sheet{}, false
	}
	laid := cutUp(len(s.faces))
	for _, pair := range tree {
		i := slices.IndexFunc(s.joints, func(j joint) bool { return j.Pair == pair })
		if i < 0 || !laid.apart(s.joints[i]) {
			return sheet{}, false
		}
		laid = laid.joined(s.joints[i])
	}
	return laid, true
}
