package fold_test

import (
	"slices"
	"testing"

	"gamp/api"
	"gamp/fold"
)

// F1: Reduce leaves one segment exactly of what an order folds.
func TestReduction(t *testing.T) {
	for _, strip := range append(someStrips(), []int{3, 1, 2, 2, 1, 3, 1, 2, 4}, []int{5, 2, 3, 1, 1, 2, 6, 3, 4}) {
		for _, pattern := range patterns(len(strip) - 1) {
			rest, letters, _ := fold.Reduce(strip, pattern)
			order, e := fold.Layers(strip, pattern)
			if (e == api.OK) != (len(rest) == 1) || len(letters) != len(rest)-1 {
				t.Errorf("%v, %s: Reduce leaves %v, %q, Layers %v, %d", strip, pattern, rest, letters, order, e)
			}
			if e != api.OK {
				continue
			}
			if s, e := fold.Creases(strip, order); e != api.OK || s != pattern {
				t.Errorf("%v, %s: Layers %v has the creases %s, %d", strip, pattern, order, s, e)
			}
		}
	}
}

// F2: At and Rank are inverse, and At's orders rise.
func TestRanks(t *testing.T) {
	for _, strip := range [][]int{{4}, {1, 2, 1}, {1, 1, 1, 1, 1, 1}, {3, 1, 2, 2, 1, 3, 1, 2}, {2, 1, 2, 1, 2, 1, 2, 1, 2}} {
		count, _ := fold.Count(strip)
		var last []int
		for i := 0; i < count; i += 1 + count/300 {
			l, e := fold.At(strip, i)
			if e != api.OK || slices.Compare(last, l) >= 0 {
				t.Errorf("At(%v, %d) = %v, %d, after %v", strip, i, l, e, last)
			}
			if ok, e := fold.Folds(strip, l); e != api.OK || !ok {
				t.Errorf("Folds(%v, %v) = %t, %d", strip, l, ok, e)
			}
			if r, e := fold.Rank(strip, l); e != api.OK || r != i {
				t.Errorf("Rank(%v, %v) = %d, %d, not %d", strip, l, r, e, i)
			}
			last = l
		}
		if l, e := fold.At(strip, count); e != api.ErrNone || len(l) != 0 {
			t.Errorf("At(%v, %d) = %v, %d", strip, count, l, e)
		}
	}
}

// F3: the numbers of folded strips of stamps.
func TestStamps(t *testing.T) {
	for i, want := range []int{1, 2, 6, 16, 50, 144, 462, 1392, 4536} {
		for _, size := range []int{1, 7, api.MaxSize} {
			strip := slices.Repeat([]int{size}, i+1)
			if n, e := fold.Count(strip); e != api.OK || n != want {
				t.Errorf("Count(%v) = %d, %d, not %d", strip, n, e, want)
			}
		}
	}
}

// F4 (Kawasaki) and F5 (Maekawa).
func TestKawasakiAndMaekawa(t *testing.T) {
	vertices := append(someVertices(), lists(5, 2)...)
	vertices = append(vertices, lists(6, 2)...)
	vertices = append(vertices, []int{3, 5, 4, 1, 2, 6, 4, 3}, []int{3, 5, 4, 1, 2, 6, 4, 2})
	for _, vertex := range vertices {
		l, e := fold.Patterns(vertex)
		if e != api.OK || (len(l) > 0) != sheetOf(vertex, true).closes {
			t.Errorf("Patterns(%v) = %v, %d", vertex, l, e)
		}
		for _, s := range l {
			valleys := 0
			for i := range len(s) {
				if s[i] == 'V' {
					valleys++
				}
			}
			if d := 2*valleys - len(s); d != 2 && d != -2 || len(s) != len(vertex) {
				t.Errorf("Patterns(%v) contains %s", vertex, s)
			}
		}
	}
}

// F6: 2·C(2m, m - 1) patterns of 2m equal angles.
func TestEqualAngles(t *testing.T) {
	for i, want := range []int{2, 8, 30, 112} {
		for _, size := range []int{1, 90, api.MaxSize} {
			vertex := slices.Repeat([]int{size}, 2*i+2)
			if l, e := fold.Patterns(vertex); e != api.OK || len(l) != want {
				t.Errorf("Patterns(%v): %d of them, %d, not %d", vertex, len(l), e, want)
			}
		}
	}
}

// F7: turned over, the letters are exchanged.
func TestTurnedOver(t *testing.T) {
	for _, strip := range someStrips() {
		for _, p := range permutations(len(strip)) {
			s, e := fold.Creases(strip, p)
			back, f := fold.Creases(strip, reversed(p))
			if e != f || back != exchanged(s) {
				t.Errorf("Creases(%v, %v) = %s, %d, but turned over %s, %d", strip, p, s, e, back, f)
			}
		}
	}
	for _, vertex := range someVertices() {
		for _, p := range permutations(len(vertex)) {
			s, e := fold.CreasesVertex(vertex, p)
			back, f := fold.CreasesVertex(vertex, reversed(p))
			if e != f || back != exchanged(s) {
				t.Errorf("CreasesVertex(%v, %v) = %s, %d, but turned over %s, %d", vertex, p, s, e, back, f)
			}
		}
	}
}

func reversed(order []int) []int {
	back := slices.Clone(order)
	slices.Reverse(back)
	return back
}

func exchanged(letters string) string {
	other := []byte(letters)
	for i := range other {
		other[i] = 'M' + 'V' - other[i]
	}
	return string(other)
}
