package fold_test

import (
	"slices"
	"strings"
	"testing"

	"gamp/api"
	"gamp/fold"
)

const (
	least = -1 << 63
	most  = 1<<63 - 1
)

// zeroWith fails unless a call returned one error and otherwise zero values.
func zeroWith(t *testing.T, call string, want, got api.Errno, zero bool) {
	t.Helper()
	if got != want || !zero {
		t.Errorf("%s: error %d, not %d; the other results are zero: %t", call, got, want, zero)
	}
}

func checkStripErrors(t *testing.T, strip, order []int, pattern string, rank int, orders, patterns, ranks api.Errno) {
	t.Helper()
	ok, e := fold.Folds(strip, order)
	zeroWith(t, "Folds", orders, e, !ok)
	s, e := fold.Creases(strip, order)
	zeroWith(t, "Creases", orders, e, s == "")
	n, e := fold.Rank(strip, order)
	zeroWith(t, "Rank", orders, e, n == 0)
	l, e := fold.Layers(strip, pattern)
	zeroWith(t, "Layers", patterns, e, len(l) == 0)
	l, s, e = fold.Reduce(strip, pattern)
	zeroWith(t, "Reduce", patterns, e, len(l) == 0 && s == "")
	l, e = fold.At(strip, rank)
	zeroWith(t, "At", ranks, e, len(l) == 0)
}

func checkVertexErrors(t *testing.T, vertex, order []int, pattern string, orders, patterns api.Errno) {
	t.Helper()
	ok, e := fold.FoldsVertex(vertex, order)
	zeroWith(t, "FoldsVertex", orders, e, !ok)
	s, e := fold.CreasesVertex(vertex, order)
	zeroWith(t, "CreasesVertex", orders, e, s == "")
	ok, e = fold.Flat(vertex, pattern)
	zeroWith(t, "Flat", patterns, e, !ok)
}

// A strip or a vertex that is not valid comes before all that is wrong with the other argument.
func TestErrArg(t *testing.T) {
	for _, sizes := range [][]int{nil, {}, {0}, {-1}, {1001}, {1, 0}, {1, 1, 1001}, {1, -1}, {least}, {most, most}, {least, 1},
		slices.Repeat([]int{1}, 10), slices.Repeat([]int{0}, 10), slices.Repeat([]int{most}, 9), slices.Repeat([]int{1}, 1000)} {
		n := len(sizes)
		for _, order := range [][]int{nil, slices.Repeat([]int{0}, n), {5}, {most}, count(n)} {
			for _, pattern := range []string{"", "x", strings.Repeat("V", max(n, 1)-1), strings.Repeat("M", n)} {
				checkStripErrors(t, sizes, order, pattern, -1, api.ErrArg, api.ErrArg, api.ErrArg)
				checkVertexErrors(t, sizes, order, pattern, api.ErrArg, api.ErrArg)
			}
		}
		c, e := fold.Count(sizes)
		zeroWith(t, "Count", api.ErrArg, e, c == 0)
		l, e := fold.Patterns(sizes)
		zeroWith(t, "Patterns", api.ErrArg, e, len(l) == 0)
	}
}

// count returns the numbers of n segments.
func count(n int) []int {
	var all []int
	for i := range n {
		all = append(all, i)
	}
	return all
}

func TestLimits(t *testing.T) {
	nine, eight := slices.Repeat([]int{1000}, 9), slices.Repeat([]int{1000}, 8)
	if ok, e := fold.Folds(nine, count(9)); e != api.OK || !ok {
		t.Errorf("Folds of 9 segments = %t, %d", ok, e)
	}
	if l, s, e := fold.Reduce(nine, "MVMVMVMV"); e != api.OK || s != "" || !slices.Equal(l, []int{1000}) {
		t.Errorf("Reduce of 9 segments = %v, %q, %d", l, s, e)
	}
	if ok, e := fold.FoldsVertex(eight, count(8)); e != api.OK || !ok {
		t.Errorf("FoldsVertex of 8 angles = %t, %d", ok, e)
	}
	checkVertexErrors(t, nine, count(9), "MMMMVVVVV", api.ErrArg, api.ErrArg)
	checkVertexErrors(t, []int{1}, []int{0}, "V", api.ErrArg, api.ErrArg)
	if l, e := fold.Patterns([]int{1}); e != api.ErrArg || len(l) != 0 {
		t.Errorf("Patterns of one angle = %v, %d", l, e)
	}
	if l, e := fold.Patterns(nine); e != api.ErrArg || len(l) != 0 {
		t.Errorf("Patterns of 9 angles = %v, %d", l, e)
	}
}

func TestErrForm(t *testing.T) {
	strip := []int{3, 1, 3} // neither VV nor 0 2 1 fold it
	for _, order := range [][]int{nil, {}, {0}, {0, 1}, {0, 1, 1}, {0, 0, 0}, {1, 2, 3}, {-1, 0, 1}, {0, 1, 2, 3}, {0, 1, 2, 2},
		{0, 1, most}, {least, 1, 0}, {2, 1, -3}} {
		for _, pattern := range []string{"", "V", "VVV", "VMVM", "vm", "V ", "VX", "xV", "V\x00", "VM\n", "\xff\xfe", "ΜV", "01"} {
			checkStripErrors(t, strip, order, pattern, least, api.ErrForm, api.ErrForm, api.ErrNone)
		}
	}
	checkStripErrors(t, []int{1}, []int{1}, "V", 1, api.ErrForm, api.ErrForm, api.ErrNone)
	checkStripErrors(t, []int{1}, nil, "M", -1, api.ErrForm, api.ErrForm, api.ErrNone)
}

// The patterns of a vertex have as many letters as it has angles, and are checked also if it does not close.
func TestErrFormOfVertices(t *testing.T) {
	for _, vertex := range [][]int{{1, 1, 1, 1}, {1, 2, 1, 2}, {1, 2, 3, 2}} {
		for _, order := range [][]int{nil, {}, {0, 1, 2}, {0, 1, 2, 3, 4}, {0, 1, 2, 4}, {3, 2, 1, 1}, {-1, 0, 1, 2}, {most, 0, 1, 2}} {
			for _, pattern := range []string{"", "MMV", "MMMVM", "MMMv", "MMM ", "mMMV", "\xff\xff\xff\xff"} {
				checkVertexErrors(t, vertex, order, pattern, api.ErrForm, api.ErrForm)
			}
		}
	}
	checkVertexErrors(t, []int{1, 1, 1}, []int{0, 1}, "VV", api.ErrForm, api.ErrForm)
	checkVertexErrors(t, []int{1, 2}, []int{0, 0}, "V", api.ErrForm, api.ErrForm)
}

// What is well formed but does not fold is ErrNone, or false.
func TestErrNone(t *testing.T) {
	s, e := fold.Creases([]int{3, 1, 3}, []int{0, 2, 1})
	zeroWith(t, "Creases", api.ErrNone, e, s == "")
	n, e := fold.Rank([]int{3, 1, 3}, []int{2, 0, 1})
	zeroWith(t, "Rank", api.ErrNone, e, n == 0)
	l, e := fold.Layers([]int{3, 1, 3}, "MM")
	zeroWith(t, "Layers", api.ErrNone, e, len(l) == 0)
	for _, vertex := range [][]int{{1, 1, 1}, {1, 2, 1}, {2, 1}, {1, 2, 1, 2}, {1, 1, 1, 2}, {1, 1, 1, 1, 1}, {1, 2, 1, 2, 1, 2, 1}} {
		n := len(vertex)
		if ok, e := fold.FoldsVertex(vertex, count(n)); e != api.OK || ok {
			t.Errorf("FoldsVertex(%v) = %t, %d", vertex, ok, e)
		}
		if s, e := fold.CreasesVertex(vertex, count(n)); e != api.ErrNone || s != "" {
			t.Errorf("CreasesVertex(%v) = %q, %d", vertex, s, e)
		}
		if ok, e := fold.Flat(vertex, strings.Repeat("V", n-1)+"M"); e != api.OK || ok {
			t.Errorf("Flat(%v) = %t, %d", vertex, ok, e)
		}
		if l, e := fold.Patterns(vertex); e != api.OK || len(l) != 0 {
			t.Errorf("Patterns(%v) = %v, %d", vertex, l, e)
		}
	}
}
