package strap_test

import (
	"fmt"
	"slices"
	"testing"

	"gamp/api"
	"gamp/strap"
)

// everything returns the results of all functions, as text.
func everything(n int, a, b []int, braid api.Braid) string {
	p, e := strap.Perm(n, a)
	text := fmt.Sprintln(p, e)
	form, e := strap.Normal(n, a)
	text += fmt.Sprintln(form, e)
	ok, e := strap.Is(n, braid)
	text += fmt.Sprintln(ok, e)
	word, e := strap.Word(n, braid)
	text += fmt.Sprintln(word, e)
	ok, e = strap.Equal(n, a, b)
	text += fmt.Sprintln(ok, e)
	loops, e := strap.Loops(n, a)
	text += fmt.Sprintln(loops, e)
	m, e := strap.Burau(n, a)
	text += fmt.Sprintln(m, e)
	l, e := strap.Alexander(n, a)
	return text + fmt.Sprintln(l, e)
}

// roomy returns a copy with more memory behind it, which nothing may write to.
func roomy[Element any](list []Element) []Element {
	var none Element
	long := append(slices.Clone(list), none, none, none)
	return long[:len(list)]
}

func untouched(list, was []int) bool {
	return slices.Equal(list[:len(list)+3], append(slices.Clone(was), 0, 0, 0))
}

// R5 and R6: arguments are not changed, and the same arguments give the same results, whatever lies behind them.
func TestArgumentsStay(t *testing.T) {
	for n, word := range someWords(api.MaxBurau) {
		other := inverse(inverse(word))
		braid := normal(t, n, word)
		a, b := roomy(word), roomy(other)
		factors := roomy(braid.Factors)
		for i := range factors {
			factors[i] = roomy(factors[i])
		}
		first := everything(n, a, b, api.Braid{Power: braid.Power, Factors: factors})
		if !untouched(a, word) || !untouched(b, other) || !slices.EqualFunc(factors, braid.Factors, untouched) {
			t.Errorf("changed: %v %v %v", a, b, factors)
		}
		for _, s := range factors[len(factors) : len(factors)+3] {
			if s != nil {
				t.Errorf("changed behind the factors: %v", s)
			}
		}
		if second := everything(n, word, other, braid); first != second {
			t.Errorf("%s\nand then\n%s", first, second)
		}
	}
}

// scribble writes over all memory of lists, each with another number, and reports whether each then holds its own.
func scribble(lists [][]int) bool {
	for i, list := range lists {
		list = list[:cap(list)]
		for j := range list {
			list[j] = -9 - i
		}
	}
	for i, list := range lists {
		if slices.ContainsFunc(list[:cap(list)], func(c int) bool { return c != -9-i }) {
			return false
		}
	}
	return true
}

// R5: results are new memory, also that of each factor and each entry.
func TestResultsAreNew(t *testing.T) {
	for n, word := range someWords(api.MaxBurau) {
		braid := normal(t, n, word)
		first := everything(n, word, word, braid)
		var lists [][]int
		p, _ := strap.Perm(n, word)
		w, _ := strap.Word(n, braid)
		a, _ := strap.Alexander(n, word)
		lists = append(lists, p, w, a.Coef)
		lists = append(lists, normal(t, n, word).Factors...)
		for _, row := range burau(t, n, word) {
			for _, entry := range row {
				lists = append(lists, entry.Coef)
			}
		}
		if !scribble(lists) {
			t.Errorf("n %d, %v: two lists share memory", n, word)
		}
		if second := everything(n, word, word, braid); first != second {
			t.Errorf("%s\nand then\n%s", first, second)
		}
	}
}

// R4: nil and empty are the same.
func TestNilIsEmpty(t *testing.T) {
	for n := -1; n <= api.MaxStrands+1; n++ {
		first := everything(n, nil, nil, api.Braid{})
		second := everything(n, []int{}, []int{}, api.Braid{Factors: [][]int{}})
		if first != second {
			t.Errorf("%s\nand with empty slices\n%s", first, second)
		}
		if n < 2 || n > api.MaxStrands {
			continue
		}
		first = everything(n, nil, nil, api.Braid{Factors: [][]int{nil}})
		second = everything(n, nil, nil, api.Braid{Factors: [][]int{{}}})
		if first != second {
			t.Errorf("%s\nand with an empty factor\n%s", first, second)
		}
	}
}
