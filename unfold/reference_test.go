package unfold_test

import (
	"maps"
	"slices"

	"gamp/api"
)

// What follows reads the chapter's definitions word by word, without a thought for speed.

type vector [3]int

func vectors() [6]vector {
	return [6]vector{{1, 0, 0}, {-1, 0, 0}, {0, 1, 0}, {0, -1, 0}, {0, 0, 1}, {0, 0, -1}}
}

func (v vector) plus(w vector) vector {
	return vector{v[0] + w[0], v[1] + w[1], v[2] + w[2]}
}

func (v vector) negative() vector {
	return vector{-v[0], -v[1], -v[2]}
}

func moved(c api.Cell, v vector) api.Cell {
	return api.Cell{X: c.X + v[0], Y: c.Y + v[1], Z: c.Z + v[2]}
}

// reference is a solid with its faces and joints in order, and the edge of each joint by its two corner points.
type reference struct {
	solid  []api.Cell
	faces  []api.Face
	joints []api.Pair
	edgeOf map[api.Pair][2]vector
}

func referenceOf(solid []api.Cell) reference {
	r := reference{solid: solid, edgeOf: map[api.Pair][2]vector{}}
	for z := range api.MaxGrid {
		for y := range api.MaxGrid {
			for x := range api.MaxGrid {
				for d, v := range vectors() {
					c := api.Cell{X: x, Y: y, Z: z}
					if slices.Contains(solid, c) && !slices.Contains(solid, moved(c, v)) {
						r.faces = append(r.faces, api.Face{Cell: c, Dir: d})
					}
				}
			}
		}
	}
	for a := range r.faces {
		for b := a + 1; b < len(r.faces); b++ {
			if edge, joined := r.common(a, b); joined {
				r.joints = append(r.joints, api.Pair{A: a, B: b})
				r.edgeOf[api.Pair{A: a, B: b}] = edge
			}
		}
	}
	return r
}

// pointsOf returns the four corner points of a face, in units.
func pointsOf(f api.Face) []vector {
	var points []vector
	for x := range 2 {
		for y := range 2 {
			for z := range 2 {
				corner := vector{x, y, z}
				if corner[f.Dir/2] == 1-f.Dir%2 {
					points = append(points, corner.plus(vector{f.Cell.X, f.Cell.Y, f.Cell.Z}))
				}
			}
		}
	}
	return points
}

// common returns the two corner points of the edge that two faces have in common.
func (r reference) common(a, b int) ([2]vector, bool) {
	var both []vector
	for _, p := range pointsOf(r.faces[a]) {
		if slices.Contains(pointsOf(r.faces[b]), p) {
			both = append(both, p)
		}
	}
	if len(both) != 2 {
		return [2]vector{}, false
	}
	return [2]vector{both[0], both[1]}, true
}

// edges returns the faces at each edge.
func (r reference) edges() map[[2]vector][]int {
	edges := map[[2]vector][]int{}
	for a, f := range r.faces {
		points := pointsOf(f)
		for i, p := range points {
			for _, q := range points[i+1:] {
				if v := p.plus(q.negative()); v[0]*v[0]+v[1]*v[1]+v[2]*v[2] == 1 {
					edges[[2]vector{p, q}] = append(edges[[2]vector{p, q}], a)
				}
			}
		}
	}
	return edges
}

func (r reference) corners() int {
	points := map[vector]bool{}
	for _, f := range r.faces {
		for _, p := range pointsOf(f) {
			points[p] = true
		}
	}
	return len(points)
}

// isClean tells whether each edge has two faces.
func (r reference) isClean() bool {
	for faces := range maps.Values(r.edges()) {
		if len(faces) != 2 {
			return false
		}
	}
	return true
}

// flatFace is a face on its spot with its frame.
type flatFace struct {
	spot      api.Spot
	right, up vector
}

// frame is that of face 0, and here that of the first face of each patch.
func frame(direction int) (vector, vector) {
	v := vectors()
	switch direction {
	case 0:
		return v[2], v[4]
	case 1:
		return v[3], v[4]
	case 2:
		return v[1], v[4]
	case 3:
		return v[0], v[4]
	case 4:
		return v[0], v[2]
	}
	return v[0], v[3]
}

// next unfolds from face f, which lies flat, to face g.
func (r reference) next(flat flatFace, f, g int) flatFace {
	v := vectors()
	normal, there := v[r.faces[f].Dir], v[r.faces[g].Dir]
	edge := r.edgeOf[api.Pair{A: min(f, g), B: max(f, g)}]
	steps := []api.Spot{{X: 1}, {Y: 1}, {X: -1}, {Y: -1}}
	for i, e := range []vector{flat.right, flat.up, flat.right.negative(), flat.up.negative()} {
		// The edge lies in the direction e if e is that from the edge of the same face on the other side.
		if !r.liesIn(f, edge, e) {
			continue
		}
		turned := normal
		switch there {
		case normal:
			turned = e
		case e:
			turned = normal.negative()
		}
		flat.spot = api.Spot{X: flat.spot.X + steps[i].X, Y: flat.spot.Y + steps[i].Y}
		flat.right = replaced(flat.right, e, turned)
		flat.up = replaced(flat.up, e, turned)
		return flat
	}
	panic("no edge in common")
}

func (r reference) liesIn(f int, edge [2]vector, e vector) bool {
	points := pointsOf(r.faces[f])
	for _, p := range edge {
		if !slices.Contains(points, p.plus(e.negative())) {
			return false
		}
	}
	return true
}

func replaced(v, e, by vector) vector {
	switch v {
	case e:
		return by
	case e.negative():
		return by.negative()
	}
	return v
}

// lay lays all patches flat, each from its first face on, and returns the number of each face's patch, too.
func (r reference) lay(joints []api.Pair) ([]flatFace, []int) {
	flat, patch := make([]flatFace, len(r.faces)), make([]int, len(r.faces))
	for i := range patch {
		patch[i] = -1
	}
	for first := range r.faces {
		if patch[first] >= 0 {
			continue
		}
		right, up := frame(r.faces[first].Dir)
		flat[first], patch[first] = flatFace{right: right, up: up}, first
		reached := []int{first}
		for i := 0; i < len(reached); i++ {
			f := reached[i]
			for _, j := range joints {
				if j.A != f && j.B != f {
					continue
				}
				if g := j.A + j.B - f; patch[g] < 0 {
					flat[g], patch[g] = r.next(flat[f], f, g), first
					reached = append(reached, g)
				}
			}
		}
	}
	return flat, patch
}

// overlap returns the first two faces of one patch on the same spot.
func (r reference) overlap(joints []api.Pair) (int, int, bool) {
	flat, patch := r.lay(joints)
	for i := range flat {
		for j := i + 1; j < len(flat); j++ {
			if patch[i] == patch[j] && flat[i].spot == flat[j].spot {
				return i, j, true
			}
		}
	}
	return 0, 0, false
}

// pieces returns into how many pieces the surface falls that only hangs together at joints.
func (r reference) pieces(joints []api.Pair) int {
	piece := make([]int, len(r.faces))
	for i := range piece {
		piece[i] = i
	}
	count := len(piece)
	for _, j := range joints {
		from, to := piece[j.A], piece[j.B]
		if from == to {
			continue
		}
		count--
		for i := range piece {
			if piece[i] == from {
				piece[i] = to
			}
		}
	}
	return count
}

func (r reference) isTree(joints []api.Pair) bool {
	return len(joints) == len(r.faces)-1 && r.pieces(joints) == 1
}

// peel tries all joints in order, first with each of them and then without it.
func (r reference) peel(chosen, open []api.Pair) ([]api.Pair, bool) {
	if r.isTree(chosen) {
		return chosen, true
	}
	left := slices.Clone(chosen)
	for _, j := range open {
		if r.goesWith(chosen, j) {
			left = append(left, j)
		}
	}
	if r.pieces(left) > 1 {
		return nil, false
	}
	left = left[len(chosen):]
	if tree, found := r.peel(append(slices.Clone(chosen), left[0]), left[1:]); found {
		return tree, true
	}
	return r.peel(chosen, left[1:])
}

func (r reference) goesWith(chosen []api.Pair, j api.Pair) bool {
	with := append(slices.Clone(chosen), j)
	_, _, overlaps := r.overlap(with)
	return !overlaps && r.pieces(with) < r.pieces(chosen)
}

// someTree returns a spanning tree, for each seed another one, with its joints in any order.
func (r reference) someTree(seed int) []api.Pair {
	joints := slices.Clone(r.joints)
	for i := len(joints) - 1; i > 0; i-- {
		seed = (seed*1103515245 + 12345) % (1 << 31)
		k := seed / 65536 % (i + 1)
		joints[i], joints[k] = joints[k], joints[i]
	}
	var tree []api.Pair
	for _, j := range joints {
		with := append(slices.Clone(tree), j)
		if r.pieces(with) < r.pieces(tree) {
			tree = with
		}
	}
	return tree
}

// subsets yields all choices of n joints, in order; each of them only until the next one.
func subsets(joints []api.Pair, n int) func(yield func([]api.Pair) bool) {
	return func(yield func([]api.Pair) bool) {
		chosen := make([]api.Pair, 0, n)
		var choose func(from int) bool
		choose = func(from int) bool {
			if len(chosen) == n {
				return yield(chosen)
			}
			for i := from; i <= len(joints)-(n-len(chosen)); i++ {
				chosen = append(chosen, joints[i])
				wanted := choose(i + 1)
				chosen = chosen[:len(chosen)-1]
				if !wanted {
					return false
				}
			}
			return true
		}
		choose(0)
	}
}
