package unfold_test

import (
	"slices"
	"testing"

	"gamp/api"
	"gamp/unfold"
)

// U1: how many faces, joints and edges there are.
func TestCounts(t *testing.T) {
	for _, r := range someSolids(3) {
		neighbours := 0
		for i, c := range r.solid {
			for _, d := range r.solid[:i] {
				for _, v := range vectors() {
					if moved(c, v) == d {
						neighbours++
					}
				}
			}
		}
		faces, _ := unfold.Faces(r.solid)
		joints, _ := unfold.Joints(r.solid)
		_, edges, _ := unfold.Corners(r.solid)
		want := 6*len(r.solid) - 2*neighbours
		if len(faces) != want || len(joints) != 2*want || edges != 2*want {
			t.Errorf("%v: %d faces, %d joints, %d edges, not %d, %d, %d", r.solid, len(faces), len(joints), edges, want, 2*want, 2*want)
		}
	}
}

// U2: faces that are joined lie on neighbouring spots, and face 0 on (0, 0).
func TestJoined(t *testing.T) {
	for seed, r := range someSolids(5) {
		tree := r.someTree(seed)
		spots, e := unfold.Lay(r.solid, tree)
		if e != api.OK || len(spots) != len(r.faces) || spots[0] != (api.Spot{}) {
			t.Errorf("Lay(%v, %v) = %v, %d", r.solid, tree, spots, e)
			continue
		}
		for _, j := range tree {
			x, y := spots[j.A].X-spots[j.B].X, spots[j.A].Y-spots[j.B].Y
			if x*x+y*y != 1 {
				t.Errorf("Lay(%v, %v) = %v: faces %d and %d", r.solid, tree, spots, j.A, j.B)
			}
		}
	}
}

// counts are the numbers that do not change when a solid is turned, and the error of Peel.
type counts struct {
	faces, joints, corners, edges int
	trees                         api.Num
	peel                          api.Errno
}

func countsOf(t *testing.T, solid []api.Cell) counts {
	faces, e := unfold.Faces(solid)
	joints, f := unfold.Joints(solid)
	corners, edges, g := unfold.Corners(solid)
	trees, h := unfold.Trees(solid)
	if e != api.OK || f != api.OK || g != api.OK || h != api.OK {
		t.Errorf("%v: errors %d, %d, %d, %d", solid, e, f, g, h)
	}
	_, peel := unfold.Peel(solid)
	return counts{len(faces), len(joints), corners, edges, trees, peel}
}

// U3: turning and mirroring.
func TestTurned(t *testing.T) {
	for _, solid := range [][]api.Cell{
		{{}},
		{{}, {X: 1}},
		{{}, {X: 1}, {X: 1, Z: 1}, {X: 2, Z: 1}},
		{{}, {X: 1}, {Y: 1}, {X: 1, Y: 1}, {Z: 1}},
		{{}, {Z: 1}, {Y: 1, Z: 1}, {X: 1, Z: 1}, {X: 2, Z: 1}, {X: 3, Z: 1}},
		{{}, {X: 1}, {X: 1, Y: 1}, {X: 1, Y: 1, Z: 1}, {X: 2, Y: 1, Z: 1}, {X: 2, Y: 1, Z: 2}},
		ring(),
	} {
		want := countsOf(t, solid)
		if want.peel != api.OK {
			t.Errorf("Peel(%v): %d", solid, want.peel)
		}
		for _, turned := range turns(solid) {
			if got := countsOf(t, turned); got != want {
				t.Errorf("%v: %v, but %v: %v", solid, want, turned, got)
			}
		}
	}
}

// U4: the 384 spanning trees of a cube.
func TestCube(t *testing.T) {
	for _, cube := range [][]api.Cell{{{}}, {{X: 4, Y: 2, Z: 3}}} {
		joints, _ := unfold.Joints(cube)
		trees := 0
		for tree := range subsets(joints, 5) {
			i, j, e := unfold.Overlap(cube, tree)
			if e == api.OK {
				t.Errorf("Overlap(%v) = %d, %d", tree, i, j)
			}
			if e == api.ErrNone {
				trees++
			}
		}
		if n, e := unfold.Trees(cube); trees != 384 || n != "384" || e != api.OK {
			t.Errorf("%d trees; Trees = %s, %d", trees, n, e)
		}
	}
}

// U5: a row of cells.
func TestBox(t *testing.T) {
	for n := 1; n <= api.MaxGrid; n++ {
		for axis := range 3 {
			solid := row(n, axis)
			tree, e := unfold.Peel(solid)
			if e != api.OK || len(tree) != 4*n+1 {
				t.Errorf("Peel(%v) = %v, %d", solid, tree, e)
			}
			if i, j, e := unfold.Overlap(solid, tree); e != api.ErrNone {
				t.Errorf("Overlap(%v, %v) = %d, %d, %d", solid, tree, i, j, e)
			}
		}
	}
}

// P2 and P3: what Peel returns is a spanning tree in order, without an overlap, and no tree comes before it in which one joint is exchanged.
func TestPeelProves(t *testing.T) {
	for _, r := range someSolids(20) {
		tree, e := unfold.Peel(r.solid)
		if e != api.OK || !r.isTree(tree) || !slices.IsSortedFunc(tree, comparePairs) {
			t.Errorf("Peel(%v) = %v, %d", r.solid, tree, e)
			continue
		}
		if _, _, found := r.overlap(tree); found {
			t.Errorf("Peel(%v) = %v overlaps", r.solid, tree)
		}
		for i, last := range tree {
			for _, j := range r.joints {
				other := slices.Clone(tree)
				other[i] = j
				if comparePairs(j, last) > 0 || !r.isTree(other) {
					continue
				}
				if _, _, found := r.overlap(other); !found && j != last {
					t.Errorf("Peel(%v) = %v, but %v comes first", r.solid, tree, other)
				}
			}
		}
	}
}

func comparePairs(i, j api.Pair) int {
	return slices.Compare([]int{i.A, i.B}, []int{j.A, j.B})
}
