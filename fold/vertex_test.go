package fold_test

import (
	"slices"
	"testing"

	"gamp/api"
	"gamp/fold"
)

func TestFoldsVertexAndCreases(t *testing.T) {
	for _, c := range []struct {
		vertex, order []int
		folds         bool
		creases       string
	}{
		{[]int{1, 1}, []int{0, 1}, true, "VV"},
		{[]int{1, 1}, []int{1, 0}, true, "MM"},
		{[]int{1, 1, 1, 1}, []int{0, 1, 2, 3}, true, "VVMV"},
		{[]int{1, 1, 1, 1}, []int{0, 2, 1, 3}, false, ""}, // the creases 1 and 3 cross
		{[]int{1, 1, 1, 1}, []int{0, 1, 3, 2}, false, ""}, // the creases 0 and 2 cross
		{[]int{1, 1, 1, 1}, []int{3, 2, 1, 0}, true, "MMVM"},
		{[]int{1, 2, 3, 2}, []int{0, 1, 2, 3}, false, ""}, // the segments 1 and 2 pass through crease 0
		{[]int{1, 2, 3, 2}, []int{1, 0, 3, 2}, true, "VMMM"},
		{[]int{1, 2, 1, 2}, []int{0, 1, 2, 3}, false, ""}, // does not close
		{[]int{1, 2}, []int{0, 1}, false, ""},
		{[]int{1, 1, 1}, []int{0, 1, 2}, false, ""}, // an odd number of angles
		{[]int{1, 2, 1}, []int{0, 1, 2}, false, ""}, // an odd number whose last position is 0
	} {
		ok, e := fold.FoldsVertex(c.vertex, c.order)
		if e != api.OK || ok != c.folds {
			t.Errorf("FoldsVertex(%v, %v) = %t, %d", c.vertex, c.order, ok, e)
		}
		want := api.OK
		if !c.folds {
			want = api.ErrNone
		}
		if s, e := fold.CreasesVertex(c.vertex, c.order); e != want || s != c.creases {
			t.Errorf("CreasesVertex(%v, %v) = %q, %d", c.vertex, c.order, s, e)
		}
	}
}

// Every function of vertices, held against the definitions.
func TestVerticesByDefinition(t *testing.T) {
	for _, vertex := range someVertices() {
		sh := sheetOf(vertex, true)
		var all []string
		for _, p := range permutations(len(vertex)) {
			folds, want, err := sh.folds(p), "", api.ErrNone
			if folds {
				want, err = sh.creases(p), api.OK
				all = append(all, want)
			}
			if ok, e := fold.FoldsVertex(vertex, p); e != api.OK || ok != folds {
				t.Errorf("FoldsVertex(%v, %v) = %t, %d", vertex, p, ok, e)
			}
			if s, e := fold.CreasesVertex(vertex, p); e != err || s != want {
				t.Errorf("CreasesVertex(%v, %v) = %q, %d, not %q", vertex, p, s, e, want)
			}
		}
		slices.Sort(all)
		all = slices.Compact(all)
		if l, e := fold.Patterns(vertex); e != api.OK || !slices.Equal(l, all) {
			t.Errorf("Patterns(%v) = %v, %d, not %v", vertex, l, e, all)
		}
		for _, pattern := range patterns(len(vertex)) {
			if ok, e := fold.Flat(vertex, pattern); e != api.OK || ok != slices.Contains(all, pattern) {
				t.Errorf("Flat(%v, %s) = %t, %d", vertex, pattern, ok, e)
			}
		}
	}
}

func TestPatternsInByteOrder(t *testing.T) {
	want := []string{"MMMV", "MMVM", "MVMM", "MVVV", "VMMM", "VMVV", "VVMV", "VVVM"}
	if l, e := fold.Patterns([]int{1, 1, 1, 1}); e != api.OK || !slices.Equal(l, want) {
		t.Errorf("Patterns = %v, %d", l, e)
	}
	if l, e := fold.Patterns([]int{1000, 1000}); e != api.OK || !slices.Equal(l, []string{"MM", "VV"}) {
		t.Errorf("Patterns = %v, %d", l, e)
	}
}
