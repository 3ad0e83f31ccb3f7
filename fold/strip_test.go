package fold_test

import (
	"slices"
	"testing"

	"gamp/api"
	"gamp/fold"
)

func TestFoldsAndCreases(t *testing.T) {
	for _, c := range []struct {
		strip, order []int
		folds        bool
		creases      string
	}{
		{[]int{7}, []int{0}, true, ""},
		{[]int{1, 2}, []int{0, 1}, true, "V"},
		{[]int{1, 2}, []int{1, 0}, true, "M"},
		{[]int{1, 1, 1}, []int{0, 2, 1}, true, "VV"},
		{[]int{1, 1, 1}, []int{0, 1, 2}, true, "VM"},
		{[]int{3, 1, 3}, []int{0, 1, 2}, true, "VM"},
		{[]int{3, 1, 3}, []int{2, 1, 0}, true, "MV"},
		{[]int{3, 1, 3}, []int{0, 2, 1}, false, ""},              // segment 2 passes through crease 1
		{[]int{1, 1, 3}, []int{0, 2, 1}, false, ""},              // segment 2 passes through crease 1
		{[]int{1, 1, 3}, []int{2, 0, 1}, true, "VV"},             // segment 2 lies below
		{[]int{1, 1, 1, 1}, []int{0, 2, 1, 3}, false, ""},        // the creases 1 and 3 cross
		{[]int{1, 1, 1, 1}, []int{2, 0, 3, 1}, false, ""},        // the same two, the other way round
		{[]int{1, 1, 1, 1}, []int{0, 2, 3, 1}, true, "VVV"},      // crease 3 lies within crease 1
		{[]int{1, 1, 1, 1}, []int{2, 0, 1, 3}, true, "VVV"},      // crease 1 lies within crease 3
		{[]int{1, 2, 2, 1}, []int{0, 1, 2, 3}, true, "VMV"},      // the creases 1 and 3 are at the same position, side by side
		{[]int{1, 2, 1, 1}, []int{0, 3, 1, 2}, false, ""},        // segment 1 passes through crease 3
		{[]int{1, 2, 1, 1}, []int{0, 1, 3, 2}, true, "VMM"},      // segment 3 ends at crease 2
		{[]int{2, 1, 1, 2}, []int{0, 2, 1, 3}, false, ""},        // the creases 1 and 3 cross within longer ends
		{[]int{2, 1, 1000}, []int{2, 1, 0}, true, "MV"},          // far to the right
		{[]int{2, 1, 1000}, []int{1, 2, 0}, false, ""},           // the long end passes through crease 1
		{[]int{1, 1000, 999, 3}, []int{0, 1, 3, 2}, true, "VMM"}, // positions below 0
	} {
		ok, e := fold.Folds(c.strip, c.order)
		if e != api.OK || ok != c.folds {
			t.Errorf("Folds(%v, %v) = %t, %d", c.strip, c.order, ok, e)
		}
		want := api.OK
		if !c.folds {
			want = api.ErrNone
		}
		s, e := fold.Creases(c.strip, c.order)
		if e != want || s != c.creases {
			t.Errorf("Creases(%v, %v) = %q, %d", c.strip, c.order, s, e)
		}
	}
}

// Every function of strips, held against the definitions.
func TestStripsByDefinition(t *testing.T) {
	for _, strip := range someStrips() {
		sh := sheetOf(strip, false)
		all := sh.orders()
		for _, p := range permutations(len(strip)) {
			checkOrder(t, strip, p, sh)
		}
		if n, e := fold.Count(strip); e != api.OK || n != len(all) {
			t.Errorf("Count(%v) = %d, %d, not %d", strip, n, e, len(all))
		}
		for i, want := range all {
			if l, e := fold.At(strip, i); e != api.OK || !slices.Equal(l, want) {
				t.Errorf("At(%v, %d) = %v, %d, not %v", strip, i, l, e, want)
			}
			if r, e := fold.Rank(strip, want); e != api.OK || r != i {
				t.Errorf("Rank(%v, %v) = %d, %d, not %d", strip, want, r, e, i)
			}
		}
		for _, pattern := range patterns(len(strip) - 1) {
			checkLayers(t, strip, pattern, sh, all)
		}
	}
}

func checkOrder(t *testing.T, strip, order []int, sh sheet) {
	t.Helper()
	folds := sh.folds(order)
	if ok, e := fold.Folds(strip, order); e != api.OK || ok != folds {
		t.Errorf("Folds(%v, %v) = %t, %d", strip, order, ok, e)
	}
	letters, e := fold.Creases(strip, order)
	if folds && (e != api.OK || letters != sh.creases(order)) {
		t.Errorf("Creases(%v, %v) = %q, %d", strip, order, letters, e)
	}
	if !folds && (e != api.ErrNone || letters != "") {
		t.Errorf("Creases(%v, %v) = %q, %d", strip, order, letters, e)
	}
	if r, e := fold.Rank(strip, order); !folds && (e != api.ErrNone || r != 0) {
		t.Errorf("Rank(%v, %v) = %d, %d", strip, order, r, e)
	}
}

func checkLayers(t *testing.T, strip []int, pattern string, sh sheet, all [][]int) {
	t.Helper()
	i := slices.IndexFunc(all, func(order []int) bool { return sh.creases(order) == pattern })
	l, e := fold.Layers(strip, pattern)
	if i < 0 && (e != api.ErrNone || len(l) != 0) {
		t.Errorf("Layers(%v, %s) = %v, %d", strip, pattern, l, e)
	}
	if i >= 0 && (e != api.OK || !slices.Equal(l, all[i])) {
		t.Errorf("Layers(%v, %s) = %v, %d, not %v", strip, pattern, l, e, all[i])
	}
}

func TestLayersOfLongStrips(t *testing.T) {
	for _, c := range []struct {
		strip   []int
		pattern string
		want    []int
	}{
		{[]int{5}, "", []int{0}},
		{[]int{3, 1, 3}, "VM", []int{0, 1, 2}},
		{[]int{3, 1, 3}, "VV", nil},
		{[]int{1, 1, 1, 1, 1, 1, 1, 1, 1}, "VMVMVMVM", []int{0, 1, 2, 3, 4, 5, 6, 7, 8}},
		{[]int{1000, 999, 998, 997, 996, 995, 994, 993, 992}, "VVVVVVVV", []int{0, 2, 4, 6, 8, 7, 5, 3, 1}},
		{[]int{9, 8, 7, 6, 5, 6, 7, 8, 9}, "VVVVVVVV", nil},
	} {
		l, e := fold.Layers(c.strip, c.pattern)
		if c.want == nil && e != api.ErrNone || c.want != nil && e != api.OK || !slices.Equal(l, c.want) {
			t.Errorf("Layers(%v, %s) = %v, %d, not %v", c.strip, c.pattern, l, e, c.want)
		}
	}
}

func TestAtOutside(t *testing.T) {
	strip := []int{1, 1, 1, 1}
	for _, rank := range []int{-1, 16, 17, -1 << 63, 1<<63 - 1} {
		if l, e := fold.At(strip, rank); e != api.ErrNone || len(l) != 0 {
			t.Errorf("At(%d) = %v, %d", rank, l, e)
		}
	}
	if l, e := fold.At([]int{9}, 0); e != api.OK || !slices.Equal(l, []int{0}) {
		t.Errorf("At of one segment = %v, %d", l, e)
	}
	if l, e := fold.At([]int{9}, 1); e != api.ErrNone || len(l) != 0 {
		t.Errorf("At of one segment = %v, %d", l, e)
	}
}
