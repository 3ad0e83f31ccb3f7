package unfold_test

import (
	"fmt"
	"slices"
	"testing"

	"gamp/api"
	"gamp/unfold"
)

// everything returns the results of all functions, as text.
func everything(solid []api.Cell, tree []api.Pair) string {
	faces, e := unfold.Faces(solid)
	text := fmt.Sprintln(faces, e)
	joints, e := unfold.Joints(solid)
	text += fmt.Sprintln(joints, e)
	c, n, e := unfold.Corners(solid)
	text += fmt.Sprintln(c, n, e)
	spots, e := unfold.Lay(solid, tree)
	text += fmt.Sprintln(spots, e)
	i, j, e := unfold.Overlap(solid, tree)
	text += fmt.Sprintln(i, j, e)
	joints, e = unfold.Peel(solid)
	text += fmt.Sprintln(joints, e)
	k, e := unfold.Trees(solid)
	return text + fmt.Sprintln(k, e)
}

// roomy returns a copy with more memory behind it, which nothing may write to.
func roomy[Element any](list []Element) []Element {
	var none Element
	long := append(slices.Clone(list), none, none, none)
	return long[:len(list)]
}

func untouched[Element comparable](list, was []Element) bool {
	var none Element
	return slices.Equal(list[:len(list)+3], append(slices.Clone(was), none, none, none))
}

// R5 and R6: arguments are not changed, and the same arguments give the same results, whatever lies behind them.
func TestArgumentsStay(t *testing.T) {
	for seed, r := range someSolids(200) {
		solid, tree := slices.Clone(r.solid), r.someTree(seed)
		slices.Reverse(solid)
		cells, joints := roomy(solid), roomy(tree)
		first := everything(cells, joints)
		if !untouched(cells, solid) || !untouched(joints, tree) {
			t.Errorf("changed: %v, %v, from %v, %v", cells, joints, solid, tree)
		}
		if second := everything(solid, tree); first != second {
			t.Errorf("%s\nand then\n%s", first, second)
		}
	}
}

// R5: results are new memory.
func TestResultsAreNew(t *testing.T) {
	solid := []api.Cell{{}, {X: 1}, {X: 1, Z: 1}}
	tree := referenceOf(solid).someTree(1)
	first := everything(solid, tree)
	faces, _ := unfold.Faces(solid)
	for i := range faces[:cap(faces)] {
		faces[:cap(faces)][i] = api.Face{Cell: api.Cell{X: 7}, Dir: 7}
	}
	joints, _ := unfold.Joints(solid)
	peel, _ := unfold.Peel(solid)
	for _, list := range [][]api.Pair{joints[:cap(joints)], peel[:cap(peel)]} {
		for i := range list {
			list[i] = api.Pair{A: 77, B: 88}
		}
	}
	spots, _ := unfold.Lay(solid, tree)
	for i := range spots[:cap(spots)] {
		spots[:cap(spots)][i] = api.Spot{X: 99, Y: 99}
	}
	if second := everything(solid, tree); first != second {
		t.Errorf("%s\nand then\n%s", first, second)
	}
}

// R4: nil and empty are the same.
func TestNilIsEmpty(t *testing.T) {
	if everything(nil, nil) != everything([]api.Cell{}, []api.Pair{}) {
		t.Error("nil and empty solids differ")
	}
	cube := []api.Cell{{}}
	if everything(cube, nil) != everything(cube, []api.Pair{}) {
		t.Error("nil and empty trees differ")
	}
}
