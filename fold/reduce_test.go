package fold_test

import (
	"slices"
	"testing"

	"gamp/api"
	"gamp/fold"
)

func TestReduce(t *testing.T) {
	for _, c := range []struct {
		strip   []int
		pattern string
		rest    []int
		letters string
	}{
		{[]int{7}, "", []int{7}, ""},
		{[]int{1, 2}, "V", []int{2}, ""},             // the first one is shorter
		{[]int{2, 1}, "M", []int{2}, ""},             // the last one is shorter
		{[]int{4, 4}, "M", []int{4}, ""},             // neither is
		{[]int{1, 2, 3, 4}, "VVV", []int{4}, ""},     // from the beginning
		{[]int{4, 3, 2, 1}, "MMM", []int{4}, ""},     // from the end
		{[]int{3, 1, 3}, "VM", []int{5}, ""},         // a valley and a mountain
		{[]int{3, 1, 3}, "MV", []int{5}, ""},         // a mountain and a valley
		{[]int{3, 1, 3}, "VV", []int{3, 1, 3}, "VV"}, // equal letters
		{[]int{3, 1, 3}, "MM", []int{3, 1, 3}, "MM"},
		{[]int{2, 4, 2, 5}, "VMM", []int{4, 2, 5}, "MM"},     // the first letter goes
		{[]int{5, 2, 4, 2}, "MMV", []int{5, 2, 4}, "MM"},     // the last letter goes
		{[]int{5, 2, 4, 2, 5}, "VMVV", []int{7, 2, 5}, "VV"}, // the letters of segment 1 go
		{[]int{5, 2, 4, 2, 5}, "VVMV", []int{5, 2, 7}, "VV"}, // those of segment 3 go, as segment 2 is too long
		{[]int{5, 2, 2, 5}, "VMV", []int{5}, ""},             // as long as one neighbour
		{[]int{9, 5, 3, 4, 9}, "VMVV", []int{9, 6, 9}, "VV"}, // those of segment 2 go, as segment 1 is too long
		{[]int{9, 5, 3, 4, 9}, "MMVV", []int{12}, ""},
		{[]int{9, 5, 9, 5, 9}, "VVVV", []int{9, 5, 9, 5, 9}, "VVVV"},
		{[]int{1000, 1, 1000, 1, 1000, 1, 1000, 1, 1000}, "VMVMVMVM", []int{4996}, ""}, // longer than MaxSize
		{[]int{1, 1, 1, 1, 1, 1, 1, 1, 1}, "VVVVVVVV", []int{1}, ""},
	} {
		l, s, e := fold.Reduce(c.strip, c.pattern)
		if e != api.OK || s != c.letters || !slices.Equal(l, c.rest) {
			t.Errorf("Reduce(%v, %s) = %v, %q, %d, not %v, %q", c.strip, c.pattern, l, s, e, c.rest, c.letters)
		}
	}
}

// reduceByTheBook does the steps as the chapter words them.
func reduceByTheBook(l []int, p string) ([]int, string) {
	n := len(l)
	switch {
	case n >= 2 && l[0] <= l[1]:
		return reduceByTheBook(l[1:], p[1:])
	case n >= 2 && l[n-1] <= l[n-2]:
		return reduceByTheBook(l[:n-1], p[:n-2])
	}
	for i := range l {
		if i == 0 || i == n-1 || l[i] > l[i-1] || l[i] > l[i+1] || p[i-1:i] == p[i:i+1] {
			continue
		}
		one := l[i-1] - l[i] + l[i+1]
		return reduceByTheBook(slices.Concat(l[:i-1], []int{one}, l[i+2:]), p[:i-1]+p[i+1:])
	}
	return l, p
}

func TestReduceByTheBook(t *testing.T) {
	for _, strip := range someStrips() {
		for _, pattern := range patterns(len(strip) - 1) {
			rest, letters := reduceByTheBook(strip, pattern)
			l, s, e := fold.Reduce(strip, pattern)
			if e != api.OK || s != letters || !slices.Equal(l, rest) {
				t.Errorf("Reduce(%v, %s) = %v, %q, %d, not %v, %q", strip, pattern, l, s, e, rest, letters)
			}
		}
	}
}
