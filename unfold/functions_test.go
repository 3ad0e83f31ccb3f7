package unfold_test

import (
	"math/big"
	"slices"
	"testing"

	"gamp/api"
	"gamp/unfold"
)

// The chapter's examples.
func TestExamples(t *testing.T) {
	cube := []api.Cell{{}}
	tree := []api.Pair{{A: 0, B: 2}, {A: 0, B: 3}, {A: 0, B: 4}, {A: 0, B: 5}, {A: 1, B: 2}}
	faces, e := unfold.Faces(cube)
	if e != api.OK || !slices.Equal(faces, []api.Face{{Dir: 0}, {Dir: 1}, {Dir: 2}, {Dir: 3}, {Dir: 4}, {Dir: 5}}) {
		t.Errorf("Faces = %v, %d", faces, e)
	}
	joints, e := unfold.Joints(cube)
	want := []api.Pair{{A: 0, B: 2}, {A: 0, B: 3}, {A: 0, B: 4}, {A: 0, B: 5}, {A: 1, B: 2}, {A: 1, B: 3}, {A: 1, B: 4}, {A: 1, B: 5}, {A: 2, B: 4}, {A: 2, B: 5}, {A: 3, B: 4}, {A: 3, B: 5}}
	if e != api.OK || !slices.Equal(joints, want) {
		t.Errorf("Joints = %v, %d", joints, e)
	}
	if c, n, e := unfold.Corners(cube); e != api.OK || c != 8 || n != 12 {
		t.Errorf("Corners = %d, %d, %d", c, n, e)
	}
	if n, e := unfold.Trees(cube); e != api.OK || n != "384" {
		t.Errorf("Trees = %q, %d", n, e)
	}
	if l, e := unfold.Lay(cube, tree); e != api.OK || !slices.Equal(l, []api.Spot{{}, {X: 2}, {X: 1}, {X: -1}, {Y: 1}, {Y: -1}}) {
		t.Errorf("Lay = %v, %d", l, e)
	}
	if l, e := unfold.Peel(cube); e != api.OK || !slices.Equal(l, tree) {
		t.Errorf("Peel = %v, %d", l, e)
	}
	if l, e := unfold.Joints([]api.Cell{{}, {X: 1, Y: 1}}); e != api.ErrArg || len(l) != 0 {
		t.Errorf("Joints of two cells at one edge = %v, %d", l, e)
	}
}

// Three cells around a corner, where faces with the normal e, n and -e follow an edge in the direction e.
func TestHook(t *testing.T) {
	hook := []api.Cell{{}, {X: 1}, {X: 1, Z: 1}}
	faces, e := unfold.Faces(hook)
	want := []api.Face{{Dir: 1}, {Dir: 2}, {Dir: 3}, {Dir: 4}, {Dir: 5},
		{Cell: hook[1], Dir: 0}, {Cell: hook[1], Dir: 2}, {Cell: hook[1], Dir: 3}, {Cell: hook[1], Dir: 5},
		{Cell: hook[2], Dir: 0}, {Cell: hook[2], Dir: 1}, {Cell: hook[2], Dir: 2}, {Cell: hook[2], Dir: 3}, {Cell: hook[2], Dir: 4}}
	if e != api.OK || !slices.Equal(faces, want) {
		t.Errorf("Faces = %v, %d", faces, e)
	}
	tree := []api.Pair{{A: 0, B: 3}, {A: 3, B: 10}, {A: 10, B: 13}, {A: 9, B: 13}, {A: 5, B: 9}, {A: 5, B: 8}, {A: 4, B: 8},
		{A: 0, B: 1}, {A: 1, B: 6}, {A: 0, B: 2}, {A: 2, B: 7}, {A: 10, B: 11}, {A: 10, B: 12}}
	spots := []api.Spot{{}, {X: -1}, {X: 1}, {Y: 1}, {Y: 7}, {Y: 5}, {X: -2}, {X: 2}, {Y: 6}, {Y: 4}, {Y: 2}, {X: -1, Y: 2}, {X: 1, Y: 2}, {Y: 3}}
	if l, e := unfold.Lay(hook, tree); e != api.OK || !slices.Equal(l, spots) {
		t.Errorf("Lay = %v, %d", l, e)
	}
	if i, j, e := unfold.Overlap(hook, tree); e != api.ErrNone || i != 0 || j != 0 {
		t.Errorf("Overlap = %d, %d, %d", i, j, e)
	}
	tree[8] = api.Pair{A: 6, B: 11} // faces 3, 11 and then 6 around the corner on the other side
	tree[7] = api.Pair{A: 1, B: 3}
	if i, j, e := unfold.Overlap(hook, tree); e != api.OK || i != 1 || j != 6 {
		t.Errorf("Overlap = %d, %d, %d", i, j, e)
	}
}

// Around the point in the middle of the ring there is one corner point, though the surface comes there twice.
func TestRing(t *testing.T) {
	if c, n, e := unfold.Corners(ring()); e != api.OK || c != 25 || n != 48 {
		t.Errorf("Corners = %d, %d, %d", c, n, e)
	}
	if l, e := unfold.Faces(ring()); e != api.OK || len(l) != 24 {
		t.Errorf("Faces = %v, %d", l, e)
	}
}

func TestSurfaces(t *testing.T) {
	for _, r := range someSolids(1) {
		if l, e := unfold.Faces(r.solid); e != api.OK || !slices.Equal(l, r.faces) {
			t.Errorf("Faces(%v) = %v, %d, not %v", r.solid, l, e, r.faces)
		}
		if l, e := unfold.Joints(r.solid); e != api.OK || !slices.Equal(l, r.joints) {
			t.Errorf("Joints(%v) = %v, %d, not %v", r.solid, l, e, r.joints)
		}
		if c, n, e := unfold.Corners(r.solid); e != api.OK || c != r.corners() || n != len(r.edges()) {
			t.Errorf("Corners(%v) = %d, %d, %d, not %d, %d", r.solid, c, n, e, r.corners(), len(r.edges()))
		}
	}
}

// Solids that lie elsewhere on the grid, or whose cells are in another order, have the same results in the same order.
func TestElsewhere(t *testing.T) {
	for _, r := range someSolids(60) {
		var far vector
		for i := range far {
			for fits(shifted(r.solid, far)) {
				far[i]++
			}
			far[i]--
		}
		cells := shifted(r.solid, far)
		for i := range cells {
			other := append(slices.Clone(cells[i:]), cells[:i]...)
			slices.Reverse(other)
			w := referenceOf(cells)
			if l, e := unfold.Faces(other); e != api.OK || !slices.Equal(l, w.faces) {
				t.Errorf("Faces(%v) = %v, %d, not %v", other, l, e, w.faces)
			}
			if l, e := unfold.Joints(other); e != api.OK || !slices.Equal(l, r.joints) {
				t.Errorf("Joints(%v) = %v, %d, not %v", other, l, e, r.joints)
			}
			peel, _ := unfold.Peel(r.solid)
			if l, e := unfold.Peel(other); e != api.OK || !slices.Equal(l, peel) {
				t.Errorf("Peel(%v) = %v, %d, not %v", other, l, e, peel)
			}
			tree := r.someTree(i)
			spots, _ := unfold.Lay(r.solid, tree)
			if l, e := unfold.Lay(other, tree); e != api.OK || !slices.Equal(l, spots) {
				t.Errorf("Lay(%v, %v) = %v, %d, not %v", other, tree, l, e, spots)
			}
		}
	}
}

// Lay and Overlap of trees with many overlaps, or with none, in any order of the joints.
func TestLayAndOverlap(t *testing.T) {
	flat := 0
	for i, r := range someSolids(8) {
		for seed := range 4 {
			tree := r.someTree(10*i + seed)
			var spots []api.Spot
			faces, _ := r.lay(tree)
			for _, f := range faces {
				spots = append(spots, f.spot)
			}
			if l, e := unfold.Lay(r.solid, tree); e != api.OK || !slices.Equal(l, spots) {
				t.Errorf("Lay(%v, %v) = %v, %d, not %v", r.solid, tree, l, e, spots)
			}
			want := api.ErrNone
			a, b, found := r.overlap(tree)
			if found {
				want = api.OK
			} else {
				flat++
			}
			if i, j, e := unfold.Overlap(r.solid, tree); e != want || i != a || j != b {
				t.Errorf("Overlap(%v, %v) = %d, %d, %d, not %d, %d", r.solid, tree, i, j, e, a, b)
			}
		}
	}
	if flat < 10 {
		t.Errorf("only %d trees without an overlap", flat)
	}
}

// The first of all spanning trees that has no overlap, tried one by one.
func TestPeelOfFewCells(t *testing.T) {
	for _, r := range slices.Concat(solids(1), solids(2), solids(3)) {
		for tree := range subsets(r.joints, len(r.faces)-1) {
			if !r.isTree(tree) {
				continue
			}
			if _, _, found := r.overlap(tree); found {
				continue
			}
			if l, e := unfold.Peel(r.solid); e != api.OK || !slices.Equal(l, tree) {
				t.Errorf("Peel(%v) = %v, %d, not %v", r.solid, l, e, tree)
			}
			break
		}
	}
}

func TestPeel(t *testing.T) {
	for _, r := range someSolids(37) {
		tree, found := r.peel(nil, r.joints)
		if l, e := unfold.Peel(r.solid); !found || e != api.OK || !slices.Equal(l, tree) {
			t.Errorf("Peel(%v) = %v, %d, not %v", r.solid, l, e, tree)
		}
	}
}

// Solids for which a search goes astray that only looks for overlaps.
func TestHardPeel(t *testing.T) {
	for _, cells := range [][]api.Cell{
		{{}, {Z: 1}, {Y: 1, Z: 1}, {X: 1, Z: 1}, {X: 2, Z: 1}},
		{{}, {Z: 1}, {Y: 1, Z: 1}, {X: 1, Z: 1}, {X: 2, Z: 1}, {X: 2, Z: 2}},
		{{}, {Z: 1}, {Y: 1, Z: 1}, {X: 1, Z: 1}, {X: 2, Z: 1}, {X: 3, Z: 1}},
		{{Y: 1, Z: 1}, {X: 1}, {X: 1, Z: 1}, {X: 1, Y: 1, Z: 1}, {X: 2, Z: 1}, {X: 3, Z: 1}},
		{{}, {Y: 1}, {Y: 1, Z: 1}, {Y: 2}, {X: 1, Y: 2}, {X: 2, Y: 2}},
	} {
		r := referenceOf(cells)
		tree, e := unfold.Peel(cells)
		if e != api.OK || !r.isTree(tree) {
			t.Errorf("Peel(%v) = %v, %d", cells, tree, e)
		}
		if i, j, found := r.overlap(tree); found {
			t.Errorf("Peel(%v) = %v: faces %d and %d overlap", cells, tree, i, j)
		}
	}
	hard := referenceOf([]api.Cell{{}, {Z: 1}, {Y: 1, Z: 1}, {X: 1, Z: 1}, {X: 2, Z: 1}})
	tree, _ := hard.peel(nil, hard.joints)
	if l, _ := unfold.Peel(hard.solid); !slices.Equal(l, tree) {
		t.Errorf("Peel(%v) = %v, not %v", hard.solid, l, tree)
	}
}

func TestTreesOfTwoCells(t *testing.T) {
	for _, r := range solids(2) {
		count := 0
		for tree := range subsets(r.joints, len(r.faces)-1) {
			if r.isTree(tree) {
				count++
			}
		}
		want := api.Num(big.NewInt(int64(count)).String())
		if n, e := unfold.Trees(r.solid); e != api.OK || n != want {
			t.Errorf("Trees(%v) = %s, %d, not %s", r.solid, n, e, want)
		}
	}
}

func TestTrees(t *testing.T) {
	for _, r := range someSolids(5) {
		want := api.Num(r.kirchhoff().String())
		if n, e := unfold.Trees(r.solid); e != api.OK || n != want {
			t.Errorf("Trees(%v) = %s, %d, not %s", r.solid, n, e, want)
		}
	}
}

// kirchhoff returns the determinant without the last face (Bareiss).
func (r reference) kirchhoff() *big.Int {
	rows := make([][]*big.Int, len(r.faces))
	for i := range rows {
		for range rows {
			rows[i] = append(rows[i], new(big.Int))
		}
	}
	one := big.NewInt(1)
	for _, j := range r.joints {
		for _, ends := range [][2]int{{j.A, j.B}, {j.B, j.A}} {
			rows[ends[0]][ends[0]].Add(rows[ends[0]][ends[0]], one)
			rows[ends[0]][ends[1]].Sub(rows[ends[0]][ends[1]], one)
		}
	}
	last := one
	n := len(rows) - 1
	for i := range n {
		for k := i + 1; k < n; k++ {
			for l := i + 1; l < n; l++ {
				x := new(big.Int).Mul(rows[k][l], rows[i][i])
				y := new(big.Int).Mul(rows[k][i], rows[i][l])
				rows[k][l] = x.Sub(x, y).Quo(x, last)
			}
		}
		last = rows[i][i]
	}
	return last
}
