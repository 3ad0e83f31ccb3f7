package fold_test

import (
	"slices"
	"testing"
)

// This file checks orders by the words of the chapter, with none of the package's code.

// joint is a crease of a sheet: the two segments that it joins, and the position.
type joint struct {
	s, t, at int
}

// sheet is a strip or a vertex with the positions of its segments' ends.
type sheet struct {
	ends   []int
	joints []joint
	closes bool
}

func sheetOf(lengths []int, vertex bool) sheet {
	k := len(lengths)
	sh := sheet{ends: []int{0}}
	for i, length := range lengths {
		if i%2 == 1 {
			length = -length
		}
		sh.ends = append(sh.ends, sh.ends[i]+length)
	}
	sh.closes = !vertex || k%2 == 0 && sh.ends[k] == 0
	if vertex {
		sh.joints = append(sh.joints, joint{k - 1, 0, 0})
	}
	for i := 1; i < k; i++ {
		sh.joints = append(sh.joints, joint{i - 1, i, sh.ends[i]})
	}
	return sh
}

func (sh sheet) span(segment int) (int, int) {
	a, b := sh.ends[segment], sh.ends[segment+1]
	return min(a, b), max(a, b)
}

func layersOf(order []int) []int {
	layers := make([]int, len(order))
	for i, segment := range order {
		layers[segment] = i
	}
	return layers
}

func between(x, a, b int) bool {
	return min(a, b) < x && x < max(a, b)
}

func (sh sheet) folds(order []int) bool {
	layer := layersOf(order)
	for i, c := range sh.joints {
		for segment := range order {
			low, high := sh.span(segment)
			if low < c.at && c.at < high && between(layer[segment], layer[c.s], layer[c.t]) {
				return false
			}
		}
		for j, d := range sh.joints {
			if i == j || c.at != d.at || !sh.sameSide(c, d) {
				continue
			}
			if between(layer[d.s], layer[c.s], layer[c.t]) != between(layer[d.t], layer[c.s], layer[c.t]) {
				return false
			}
		}
	}
	return sh.closes
}

func (sh sheet) sameSide(c, d joint) bool {
	left, right := 0, 0
	for _, segment := range []int{c.s, c.t, d.s, d.t} {
		low, high := sh.span(segment)
		if low == c.at {
			right++
		}
		if high == c.at {
			left++
		}
	}
	return left == 4 || right == 4
}

func (sh sheet) creases(order []int) string {
	layer := layersOf(order)
	letters := ""
	for _, c := range sh.joints {
		switch {
		case c.s%2 == 0 && layer[c.t] > layer[c.s], c.s%2 == 1 && layer[c.t] < layer[c.s]:
			letters += "V"
		default:
			letters += "M"
		}
	}
	return letters
}

// permutations returns all permutations of n elements in lexicographic order.
func permutations(n int) [][]int {
	all := [][]int{{}}
	for range n {
		var longer [][]int
		for _, p := range all {
			for x := range n {
				if !slices.Contains(p, x) {
					longer = append(longer, append(slices.Clone(p), x))
				}
			}
		}
		all = longer
	}
	return all
}

// orders returns all orders that fold the sheet, from the least one on.
func (sh sheet) orders() [][]int {
	var all [][]int
	for _, p := range permutations(len(sh.ends) - 1) {
		if sh.folds(p) {
			all = append(all, p)
		}
	}
	return all
}

// patterns returns all strings of n letters M and V in byte order.
func patterns(n int) []string {
	all := []string{""}
	for range n {
		var longer []string
		for _, p := range all {
			longer = append(longer, p+"M", p+"V")
		}
		all = longer
	}
	return all
}

// lists returns all lists of n numbers from 1 to most.
func lists(n, most int) [][]int {
	all := [][]int{{}}
	for range n {
		var longer [][]int
		for _, p := range all {
			for x := range most {
				longer = append(longer, append(slices.Clone(p), x+1))
			}
		}
		all = longer
	}
	return all
}

// someStrips returns all strips of up to 4 segments of 1 to 3, and some longer ones.
func someStrips() [][]int {
	var all [][]int
	for n := 1; n <= 4; n++ {
		all = append(all, lists(n, 3)...)
	}
	all = append(all, lists(5, 2)...)
	return append(all, []int{2, 4, 2, 1, 3}, []int{4, 2, 1, 2, 4}, []int{3, 1, 3, 1, 3}, []int{4, 3, 2, 3, 4},
		[]int{5, 4, 3, 2, 1}, []int{1000, 1, 1000, 999, 1}, []int{3, 1, 2, 1, 3, 2}, []int{1, 1, 1, 1, 1, 1},
		[]int{4, 1, 1, 1, 1, 4}, []int{5, 3, 1, 1, 3, 5}, []int{2, 1, 2, 1, 2, 1, 2}, []int{3, 2, 1, 1, 1, 2, 3})
}

// someVertices returns all vertices of up to 4 angles of 1 to 3, and some larger ones.
func someVertices() [][]int {
	var all [][]int
	for n := 2; n <= 4; n++ {
		all = append(all, lists(n, 3)...)
	}
	for _, v := range lists(6, 2) {
		if sheetOf(v, true).closes {
			all = append(all, v)
		}
	}
	return append(all, []int{1, 1, 1, 1, 1}, []int{1, 2, 3, 4, 5, 3}, []int{3, 1, 1, 3, 2, 2}, []int{1, 1, 1, 1, 1, 2},
		[]int{1000, 1, 999, 1000, 1, 999}, []int{2, 1, 2, 1, 2, 1, 1, 4}, []int{1, 1, 1, 1, 1, 1, 1, 1}, []int{1, 2, 1, 1, 1, 1, 1})
}

func TestReference(t *testing.T) {
	if n := len(sheetOf([]int{1, 1, 1, 1}, false).orders()); n != 16 {
		t.Errorf("the reference counts %d orders of 4 stamps", n)
	}
	if n := len(sheetOf([]int{3, 1, 3}, false).orders()); n != 2 {
		t.Errorf("the reference counts %d orders of 3 1 3", n)
	}
}
