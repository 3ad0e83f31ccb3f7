package fold_test

import (
	"fmt"
	"slices"
	"testing"

	"gamp/api"
	"gamp/fold"
)

// roomy returns a copy with more memory behind it, which nothing may write to.
func roomy(list []int) []int {
	long := append(slices.Clone(list), -7, -7, -7)
	return long[:len(list)]
}

func untouched(list, was []int) bool {
	return slices.Equal(list, was) && slices.Equal(list[:len(list)+3], append(slices.Clone(was), -7, -7, -7))
}

// everything returns the results of all functions, as text.
func everything(strip, order []int, pattern string, vertex, turns []int, around string, rank int) string {
	a, e := fold.Folds(strip, order)
	text := fmt.Sprintln(a, e)
	b, e := fold.Creases(strip, order)
	text += fmt.Sprintln(b, e)
	c, e := fold.Layers(strip, pattern)
	text += fmt.Sprintln(c, e)
	d, s, e := fold.Reduce(strip, pattern)
	text += fmt.Sprintln(d, s, e)
	n, e := fold.Count(strip)
	text += fmt.Sprintln(n, e)
	c, e = fold.At(strip, rank)
	text += fmt.Sprintln(c, e)
	n, e = fold.Rank(strip, order)
	text += fmt.Sprintln(n, e)
	a, e = fold.FoldsVertex(vertex, turns)
	text += fmt.Sprintln(a, e)
	b, e = fold.CreasesVertex(vertex, turns)
	text += fmt.Sprintln(b, e)
	a, e = fold.Flat(vertex, around)
	text += fmt.Sprintln(a, e)
	l, e := fold.Patterns(vertex)
	return text + fmt.Sprintln(l, e)
}

// R5 and R6: arguments are not changed, and the same arguments give the same results, whatever lies behind them.
func TestArgumentsStay(t *testing.T) {
	for _, c := range []struct {
		strip, order  []int
		pattern       string
		vertex, turns []int
		around        string
		rank          int
	}{
		{[]int{5, 2, 4, 2, 5}, []int{0, 1, 2, 3, 4}, "VMVV", []int{1, 2, 3, 2}, []int{1, 0, 3, 2}, "VMMM", 3},
		{[]int{3, 1, 3, 1, 3}, []int{0, 1, 2, 3, 4}, "VMVM", []int{1, 1, 1, 1}, []int{0, 1, 2, 3}, "VVVV", 0},
		{[]int{1, 1, 1}, []int{0, 0, 0}, "V", []int{1, 2}, []int{5, 5}, "", 90},
	} {
		strip, order, vertex, turns := roomy(c.strip), roomy(c.order), roomy(c.vertex), roomy(c.turns)
		first := everything(strip, order, c.pattern, vertex, turns, c.around, c.rank)
		if !untouched(strip, c.strip) || !untouched(order, c.order) || !untouched(vertex, c.vertex) || !untouched(turns, c.turns) {
			t.Errorf("changed: %v %v %v %v", strip, order, vertex, turns)
		}
		second := everything(c.strip, c.order, c.pattern, c.vertex, c.turns, c.around, c.rank)
		if first != second {
			t.Errorf("%s\nand then\n%s", first, second)
		}
	}
}

// R5: results are new memory.
func TestResultsAreNew(t *testing.T) {
	strip := []int{1, 1, 1}
	l, _ := fold.Layers(strip, "VM")
	a, _ := fold.At(strip, 0)
	scribble(l)
	scribble(a)
	if l, e := fold.Layers(strip, "VM"); e != api.OK || !slices.Equal(l, []int{0, 1, 2}) {
		t.Errorf("Layers = %v, %d", l, e)
	}
	if a, e := fold.At(strip, 0); e != api.OK || !slices.Equal(a, []int{0, 1, 2}) {
		t.Errorf("At = %v, %d", a, e)
	}
	for _, strip := range [][]int{{7}, {3, 1, 3}} {
		was := slices.Clone(strip)
		rest, _, _ := fold.Reduce(strip, "VV"[:len(strip)-1])
		scribble(rest)
		if !slices.Equal(strip, was) {
			t.Errorf("Reduce returns memory of its argument, which is now %v", strip)
		}
	}
	p, _ := fold.Patterns([]int{1, 1})
	p[0] = "x"
	if p, e := fold.Patterns([]int{1, 1}); e != api.OK || !slices.Equal(p, []string{"MM", "VV"}) {
		t.Errorf("Patterns = %v, %d", p, e)
	}
}

func scribble(list []int) {
	for i := range list[:cap(list)] {
		list[:cap(list)][i] = -9
	}
}

// R4: nil and empty are the same.
func TestNilIsEmpty(t *testing.T) {
	if everything(nil, nil, "", nil, nil, "", 0) != everything([]int{}, []int{}, "", []int{}, []int{}, "", 0) {
		t.Error("nil and empty slices differ")
	}
	if everything([]int{1}, nil, "", []int{1, 1}, nil, "", 0) != everything([]int{1}, []int{}, "", []int{1, 1}, []int{}, "", 0) {
		t.Error("nil and empty orders differ")
	}
}
