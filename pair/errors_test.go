package pair_test

import (
	"slices"
	"testing"

	"gamp/api"
	"gamp/pair"
)

const (
	lowest  = -1 << 63
	highest = 1<<63 - 1
)

// call has the arguments of all functions.
type call struct {
	ranks [][]int
	match []int
	next  []int
}

// errorOf calls a function, and fails if it returns more than an error.
func (c call) errorOf(t *testing.T, function string) api.Errno {
	t.Helper()
	var e api.Errno
	var list []int
	zero := true
	switch function {
	case "Blocks":
		var i, j int
		i, j, e = pair.Blocks(c.ranks, c.match)
		zero = i == 0 && j == 0
	case "Match":
		list, e = pair.Match(c.ranks)
	case "Partition":
		list, e = pair.Partition(c.ranks)
	case "Holds":
		var ok bool
		ok, e = pair.Holds(c.ranks, c.next)
		zero = !ok
	case "Odd":
		var odd [][]int
		odd, e = pair.Odd(c.ranks)
		zero = len(odd) == 0
	}
	if e != api.OK && (!zero || len(list) > 0) {
		t.Errorf("%s(%v) returns more than the error %d", function, c, e)
	}
	return e
}

func (c call) check(t *testing.T, want api.Errno, functions ...string) {
	t.Helper()
	for _, function := range functions {
		if e := c.errorOf(t, function); e != want {
			t.Errorf("%s(%v): error %d, not %d", function, c, e, want)
		}
	}
}

func allFunctions() []string {
	return []string{"Blocks", "Match", "Partition", "Holds", "Odd"}
}

// good is a call that no function refuses.
func good() call {
	ranks := [][]int{{1, 2, 3}, {0, 2, 3}, {3, 0, 1}, {2, 0, 1}}
	return call{ranks, []int{2, 3, 0, 1}, []int{1, 0, 3, 2}}
}

func TestGood(t *testing.T) {
	good().check(t, api.OK, allFunctions()...)
}

// line returns the ranks of any number of people who prefer those with the least numbers.
func line(n int) [][]int {
	var ranks [][]int
	for i := range n {
		ranks = append(ranks, without(n, i))
	}
	return ranks
}

// wrongRanks are not valid.
func wrongRanks() [][][]int {
	all := [][][]int{nil, {}, line(25), line(26), line(400), make([][]int, 25), make([][]int, 100000), {{1}, {1}}, {{0}, {0}}, {{1}, {}}, {nil, {0}}, {nil, nil}, {{0}}, {{1}}, {{-1}}, {{1, 1}, {0}}, {{1}, {0, 0}}, {{1}, {0, 1}}}
	for _, list := range [][]int{nil, {}, {0}, {0, 1}, {0, 1, 3, 3}, {0, 1, 3, 2}, {2, 0, 1, 3}, {0, 1, 2}, {2, 1, 3}, {0, 0, 1}, {1, 1, 1}, {3, 3, 0}, {0, 1, -1}, {-1, 0, 1}, {0, 1, 4}, {4, 3, 1}, {0, 1, highest}, {lowest, 0, 1}, {0, 3, lowest}, slices.Repeat([]int{0}, 100000)} {
		for _, lists := range [][][]int{{{1, 2, 3}, {0, 2, 3}, list, {0, 1, 2}}, {{3, 1, 2}, {2, 3, 0}, list, {2, 1, 0}}} {
			all = append(all, lists)
			all = append(all, people(lists).renamedRows([]int{3, 2, 0, 1}))
		}
	}
	return all
}

// renamedRows gives the people other numbers, and those in the lists too if they are people.
func (p people) renamedRows(names []int) people {
	q := make(people, len(p))
	for i, list := range p {
		for _, j := range list {
			if j >= 0 && j < len(p) {
				j = names[j]
			}
			q[names[i]] = append(q[names[i]], j)
		}
	}
	return q
}

func TestErrArg(t *testing.T) {
	for _, ranks := range wrongRanks() {
		for _, list := range [][]int{nil, {0}, {-1}, {1, 0}, {1, 0, 3, 2}, {-2}, {7, 7, 7, 7}, upTo(25), slices.Repeat([]int{-1}, 25), slices.Repeat([]int{-1}, 4)} {
			call{ranks, list, list}.check(t, api.ErrArg, allFunctions()...)
		}
	}
}

// Each person's list is checked.
func TestEveryList(t *testing.T) {
	for i := range api.MaxPeople {
		for _, k := range []int{0, 11, 22} {
			for _, wrong := range []int{i, -1, api.MaxPeople, highest, lowest} {
				ranks := line(api.MaxPeople)
				ranks[i][k] = wrong
				call{ranks: ranks}.check(t, api.ErrArg, allFunctions()...)
			}
			ranks := line(api.MaxPeople)
			ranks[i][k] = ranks[i][(k+5)%23]
			call{ranks: ranks}.check(t, api.ErrArg, allFunctions()...)
		}
	}
	ranks := line(api.MaxPeople)
	call{ranks, slices.Repeat([]int{-1}, api.MaxPeople), upTo(api.MaxPeople)}.check(t, api.OK, allFunctions()...)
}

// Lists that are no matchings; among them the one in which a person has a partner who has another one, or nobody.
func TestErrFormOfMatchings(t *testing.T) {
	for _, match := range [][]int{nil, {}, {1, 0}, {1, 0, -1}, {1, 0, 3}, {1, 0, 3, 2, -1}, {1, 0, 3, 2, 5, 4}, {1, 0, 3, 2, 4}, {0, 1, 2, 3}, {0, -1, -1, -1}, {-1, -1, -1, 3}, {1, 0, 2, -1},
		{1, 2, 0, 3}, {1, 2, 3, 0}, {1, 0, 0, -1}, {1, -1, -1, -1}, {-1, 0, -1, -1}, {-1, -1, -1, 0}, {3, -1, -1, -1}, {1, 0, 3, -1}, {1, 0, -1, 2}, {-2, -1, -1, -1}, {-1, -1, -1, -2}, {4, -1, -1, -1},
		{1, 0, -1, 4}, {1, 0, 3, 7}, {highest, -1, -1, -1}, {-1, -1, -1, lowest}, {1, 0, -1, highest}, {lowest, highest, -1, -1}, {2, 3, 1, 0}, slices.Repeat([]int{-1}, 100000)} {
		c := good()
		c.match = match
		c.check(t, api.ErrForm, "Blocks")
		c.check(t, api.OK, "Match", "Partition", "Holds", "Odd")
	}
	call{[][]int{nil}, []int{0}, []int{0}}.check(t, api.ErrForm, "Blocks")
	call{[][]int{nil}, nil, nil}.check(t, api.ErrForm, "Blocks", "Holds")
	call{[][]int{nil}, []int{-1}, []int{0}}.check(t, api.ErrNone, "Blocks")
}

func TestErrFormOfPartitions(t *testing.T) {
	for _, next := range [][]int{nil, {}, {0}, {1, 0}, {1, 2, 0}, {1, 0, 3}, {1, 0, 3, 2, 4}, {1, 0, 3, 2, 5, 4}, {0, 0, 0, 0}, {1, 0, 3, 3}, {1, 0, 0, 1}, {2, 2, 3, 3}, {-1, 0, 3, 2}, {1, 0, -1, 2},
		{-1, -1, -1, -1}, {1, 0, 3, -1}, {4, 0, 3, 2}, {1, 0, 3, 4}, {1, 2, 3, 4}, {highest, 0, 3, 2}, {1, 0, 3, lowest}, upTo(100000)} {
		c := good()
		c.next = next
		c.check(t, api.ErrForm, "Holds")
		c.check(t, api.OK, "Blocks", "Match", "Partition", "Odd")
	}
	call{[][]int{nil}, []int{-1}, []int{-1}}.check(t, api.ErrForm, "Holds")
	call{[][]int{nil}, []int{-1}, []int{1}}.check(t, api.ErrForm, "Holds")
}

// Nobody blocks a stable matching, and people without a stable one still have a partition.
func TestErrNone(t *testing.T) {
	c := good()
	c.match = []int{1, 0, 3, 2}
	c.check(t, api.ErrNone, "Blocks")
	c.check(t, api.OK, "Match", "Partition", "Holds", "Odd")
	c.ranks = [][]int{{1, 2, 3}, {2, 0, 3}, {0, 1, 3}, {0, 1, 2}}
	c.check(t, api.ErrNone, "Match")
	c.check(t, api.OK, "Blocks", "Partition", "Holds", "Odd")
}
