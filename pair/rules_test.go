package pair_test

import (
	"fmt"
	"math/rand"
	"slices"
	"testing"

	"gamp/pair"
)

// everything returns the results of all functions, as text.
func (c call) everything() string {
	i, j, e := pair.Blocks(c.ranks, c.match)
	text := fmt.Sprintln(i, j, e)
	list, e := pair.Match(c.ranks)
	text += fmt.Sprintln(list, e)
	list, e = pair.Partition(c.ranks)
	text += fmt.Sprintln(list, e)
	ok, e := pair.Holds(c.ranks, c.next)
	text += fmt.Sprintln(ok, e)
	odd, e := pair.Odd(c.ranks)
	return text + fmt.Sprintln(odd, e)
}

// roomy returns a copy with more memory behind it, which nothing may write to.
func roomy[Element any](list []Element) []Element {
	var none Element
	long := append(slices.Clone(list), none, none, none)
	return long[:len(list)]
}

// roomyCall returns a copy with more memory behind all slices.
func (c call) roomyCall() call {
	ranks := roomy(c.ranks)
	for i, list := range ranks {
		ranks[i] = roomy(list)
	}
	return call{ranks, roomy(c.match), roomy(c.next)}
}

// memory returns all that a roomy call has, and what lies behind it, as text.
func (c call) memory() string {
	text := fmt.Sprintln(c.ranks[:len(c.ranks)+3], c.match[:len(c.match)+3], c.next[:len(c.next)+3])
	for _, list := range c.ranks {
		text += fmt.Sprintln(list[:len(list)+3])
	}
	return text
}

// calls are good and bad ones.
func calls() []call {
	all := []call{good(), {}, {ranks: line(3)}, {ranks: [][]int{{1}, {1}}, match: []int{1, 0}, next: []int{1, 0}}}
	random := rand.New(rand.NewSource(9))
	for _, p := range append(manyPeople(3), inRings(random, 3, 5, 3), inRings(random, 7, 1), men(random, 6)) {
		next, _ := pair.Partition(p)
		all = append(all, call{p, slices.Repeat([]int{-1}, len(p)), next})
	}
	return all
}

// R5 and R6: arguments are not changed, and the same arguments give the same results, whatever lies behind them.
func TestArgumentsStay(t *testing.T) {
	for _, c := range calls() {
		other := c.roomyCall()
		before := other.memory()
		first := other.everything()
		if after := other.memory(); before != after {
			t.Errorf("%s has become\n%s", before, after)
		}
		for range 5 {
			if second := c.everything(); first != second {
				t.Errorf("%s\nand then\n%s", first, second)
			}
		}
	}
}

// scribble writes over all memory of a list.
func scribble(list []int, with int) {
	for i := range list[:cap(list)] {
		list[:cap(list)][i] = with
	}
}

// R5: results are new memory, also that of each party.
func TestResultsAreNew(t *testing.T) {
	for _, c := range calls() {
		first := c.everything()
		match, _ := pair.Match(c.ranks)
		next, _ := pair.Partition(c.ranks)
		odd, _ := pair.Odd(c.ranks)
		lists := append(slices.Clone(odd), match, next)
		for k, list := range lists {
			scribble(list, 77+k)
		}
		for k, list := range lists {
			if slices.ContainsFunc(list, func(i int) bool { return i != 77+k }) {
				t.Errorf("results share memory: %v", lists)
			}
		}
		if second := c.everything(); first != second {
			t.Errorf("%s\nand then\n%s", first, second)
		}
	}
}

// R4: nil and empty are the same.
func TestNilIsEmpty(t *testing.T) {
	for _, ranks := range [][][]int{nil, good().ranks} {
		none := call{ranks: ranks}
		empty := call{append([][]int{}, ranks...), []int{}, []int{}}
		if none.everything() != empty.everything() {
			t.Errorf("nil and empty slices differ for %v", ranks)
		}
	}
	none, empty := call{[][]int{nil}, []int{-1}, []int{0}}, call{[][]int{{}}, []int{-1}, []int{0}}
	if none.everything() != empty.everything() {
		t.Errorf("%s\nand with an empty slice\n%s", none.everything(), empty.everything())
	}
}
