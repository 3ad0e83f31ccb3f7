package unfold_test

import (
	"slices"
	"testing"

	"gamp/api"
	"gamp/unfold"
)

const (
	least = -1 << 63
	most  = 1<<63 - 1
)

// zeroWith fails unless a call returned one error and otherwise zero values.
func zeroWith(t *testing.T, call string, want, got api.Errno, zero bool) {
	t.Helper()
	if got != want || !zero {
		t.Errorf("%s: error %d, not %d; the other results are zero: %t", call, got, want, zero)
	}
}

// refused fails unless all functions that take a tree return one error.
func refused(t *testing.T, want api.Errno, solid []api.Cell, tree []api.Pair) {
	t.Helper()
	spots, e := unfold.Lay(solid, tree)
	zeroWith(t, "Lay", want, e, len(spots) == 0)
	i, j, e := unfold.Overlap(solid, tree)
	zeroWith(t, "Overlap", want, e, i == 0 && j == 0)
}

// invalid fails unless all functions return ErrArg for a solid, whatever the tree is.
func invalid(t *testing.T, solid []api.Cell) {
	t.Helper()
	faces, e := unfold.Faces(solid)
	zeroWith(t, "Faces", api.ErrArg, e, len(faces) == 0)
	joints, e := unfold.Joints(solid)
	zeroWith(t, "Joints", api.ErrArg, e, len(joints) == 0)
	c, n, e := unfold.Corners(solid)
	zeroWith(t, "Corners", api.ErrArg, e, c == 0 && n == 0)
	joints, e = unfold.Peel(solid)
	zeroWith(t, "Peel", api.ErrArg, e, len(joints) == 0)
	k, e := unfold.Trees(solid)
	zeroWith(t, "Trees", api.ErrArg, e, k == "")
	r := referenceOf(solid)
	for _, tree := range [][]api.Pair{nil, {{A: 0, B: 0}}, {{A: least, B: most}}, r.joints, r.someTree(1)} {
		refused(t, api.ErrArg, solid, tree)
	}
}

func TestErrArg(t *testing.T) {
	for _, solid := range [][]api.Cell{
		nil,
		{},
		{{}, {}},
		{{X: 3}, {X: 4}, {X: 3}},
		{{X: -1}},
		{{Y: -1}},
		{{Z: -1}},
		{{X: 5}},
		{{Y: 5}},
		{{Z: 5}},
		{{}, {X: -1}},
		{{X: 4}, {X: 5}},
		{{Z: 4}, {Z: 5}},
		{{X: least}},
		{{Y: most}},
		{{X: most, Y: most, Z: most}, {X: least, Y: most, Z: most}},
		{{}, {X: 1 << 62}},
		{{}, {Z: least}},
		{{}, {X: 2}},
		{{}, {X: 1}, {X: 3}, {X: 4}},
		{{}, {Y: 1}, {X: 1, Y: 2, Z: 1}},
		{{}, {X: 1, Y: 1}},
		{{}, {Y: 1, Z: 1}},
		{{}, {X: 1, Y: 1, Z: 1}},
		row(6, 0),
		slices.Concat(row(5, 0), []api.Cell{{Y: 1}, {X: 1, Y: 1}}),
		slices.Repeat([]api.Cell{{}}, 6),
		slices.Repeat([]api.Cell{{X: 1}}, 100000),
	} {
		invalid(t, solid)
	}
}

// Cells that are connected, but make an edge of four faces.
func TestErrArgOfEdges(t *testing.T) {
	arch := []api.Cell{{}, {Z: 1}, {X: 1, Z: 1}, {X: 1, Y: 1, Z: 1}, {X: 1, Y: 1}}
	for _, solid := range turns(arch) {
		invalid(t, solid)
		invalid(t, append(solid, solid[0]))
	}
	refusedShapes := 0
	for n := range api.MaxCells {
		for _, cells := range shapes(n + 1) {
			if r := referenceOf(cells); fits(cells) && !r.isClean() {
				refusedShapes++
				invalid(t, cells)
			}
		}
	}
	if refusedShapes == 0 {
		t.Error("no cells with an edge of four faces")
	}
}

func TestErrForm(t *testing.T) {
	cube := []api.Cell{{X: 4, Y: 4, Z: 4}}
	good := []api.Pair{{A: 0, B: 2}, {A: 0, B: 3}, {A: 0, B: 4}, {A: 0, B: 5}, {A: 1, B: 2}}
	refused(t, api.ErrForm, cube, nil)
	refused(t, api.ErrForm, cube, []api.Pair{})
	refused(t, api.ErrForm, cube, good[:4])
	refused(t, api.ErrForm, cube, append(slices.Clone(good), api.Pair{A: 1, B: 3}))
	refused(t, api.ErrForm, cube, append(slices.Clone(good), good[0]))
	refused(t, api.ErrForm, cube, slices.Repeat(good, 10000))
	for i := range good {
		for _, pair := range []api.Pair{{}, {A: 0, B: 1}, {A: 2, B: 3}, {A: 1, B: 0}, {A: 2, B: 2}, {A: 0, B: 6}, {A: 5, B: 6}, {A: -1, B: 0}, {A: -1, B: 2},
			{A: 6, B: 7}, {A: least, B: most}, {A: most, B: least}, {A: 0, B: most}, {A: least, B: 0}, {A: good[i].B, B: good[i].A}, good[(i+1)%5]} {
			tree := slices.Clone(good)
			tree[i] = pair
			refused(t, api.ErrForm, cube, tree)
		}
	}
	refused(t, api.ErrForm, cube, []api.Pair{{A: 0, B: 2}, {A: 2, B: 4}, {A: 0, B: 4}, {A: 1, B: 3}, {A: 1, B: 5}})
}

// What is a spanning tree is told by the definition, for all choices of as many joints, or one fewer or more.
func TestErrFormOfCubes(t *testing.T) {
	r := referenceOf([]api.Cell{{}})
	for n := 4; n <= 6; n++ {
		for tree := range subsets(r.joints, n) {
			want := api.ErrForm
			if r.isTree(tree) {
				want = api.OK
			}
			if _, e := unfold.Lay(r.solid, tree); e != want {
				t.Errorf("Lay(%v): error %d, not %d", tree, e, want)
			}
			if _, _, e := unfold.Overlap(r.solid, tree); (e == api.ErrForm) != (want == api.ErrForm) {
				t.Errorf("Overlap(%v): error %d", tree, e)
			}
		}
	}
}

// One joint of a tree is there twice, or is another joint that closes a cycle.
func TestErrFormOfSolids(t *testing.T) {
	for seed, r := range someSolids(400) {
		for _, j := range r.joints {
			tree := r.someTree(seed)
			tree[seed%len(tree)] = j
			if !r.isTree(tree) {
				refused(t, api.ErrForm, r.solid, tree)
			}
		}
	}
}
