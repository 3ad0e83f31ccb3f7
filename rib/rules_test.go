package rib_test

import (
	"fmt"
	"math/rand"
	"slices"
	"testing"

	"gamp/api"
	"gamp/rib"
)

// everything returns the results of all functions, as text.
func everything(n int, edges []api.Pair, order, ring []int, tree []api.Pair, spans []api.Span) string {
	l, e := rib.Order(n, edges)
	text := fmt.Sprintln(l, e)
	ok, e := rib.Eliminates(n, edges, order)
	text += fmt.Sprintln(ok, e)
	l, e = rib.Ring(n, edges)
	text += fmt.Sprintln(l, e)
	ok, e = rib.IsRing(n, edges, ring)
	text += fmt.Sprintln(ok, e)
	c, e := rib.Cliques(n, edges)
	text += fmt.Sprintln(c, e)
	l, e = rib.Colors(n, edges)
	text += fmt.Sprintln(l, e)
	l, c, e = rib.Apart(n, edges)
	text += fmt.Sprintln(l, c, e)
	p, e := rib.Tree(n, edges)
	text += fmt.Sprintln(p, e)
	ok, e = rib.IsTree(n, edges, tree)
	text += fmt.Sprintln(ok, e)
	s, e := rib.Spans(n, edges)
	text += fmt.Sprintln(s, e)
	ok, e = rib.Matches(n, edges, spans)
	text += fmt.Sprintln(ok, e)
	l, e = rib.Triple(n, edges)
	return text + fmt.Sprintln(l, e)
}

// roomy returns a copy with more memory behind it, which nothing may write to.
func roomy[Element any](list []Element) []Element {
	var none Element
	long := append(slices.Clone(list), none, none, none)
	return long[:len(list)]
}

func untouched[Element comparable](list, was []Element) bool {
	var none Element
	return slices.Equal(list[:len(list)+3], append(slices.Clone(was), none, none, none))
}

// R5 and R6: arguments are not changed, and the same arguments give the same results, whatever lies behind them.
func TestArgumentsStay(t *testing.T) {
	random := rand.New(rand.NewSource(6))
	for _, r := range someGraphs(50) {
		order := random.Perm(r.n)
		ring, _ := rib.Ring(r.n, r.edges)
		tree, _ := rib.Tree(r.n, r.edges)
		spans, e := rib.Spans(r.n, r.edges)
		if e != api.OK {
			spans = make([]api.Span, r.n)
		}
		edges, o, i, d, s := roomy(r.edges), roomy(order), roomy(ring), roomy(tree), roomy(spans)
		first := everything(r.n, edges, o, i, d, s)
		if !untouched(edges, r.edges) || !untouched(o, order) || !untouched(i, ring) || !untouched(d, tree) || !untouched(s, spans) {
			t.Errorf("changed: %v %v %v %v %v", edges, o, i, d, s)
		}
		for range 3 {
			if second := everything(r.n, r.edges, order, ring, tree, spans); first != second {
				t.Errorf("%s\nand then\n%s", first, second)
			}
		}
	}
}

// scribble writes over all memory of a list.
func scribble[Element any](list []Element, with Element) {
	for i := range list[:cap(list)] {
		list[:cap(list)][i] = with
	}
}

// R5: results are new memory, also that of each clique.
func TestResultsAreNew(t *testing.T) {
	for _, r := range []reference{path(5), empty(4), complete(6), cycle(6), spider(), star(12)} {
		all := func() string { return everything(r.n, r.edges, nil, nil, nil, nil) }
		first := all()
		for _, call := range []func(int, []api.Pair) ([]int, api.Errno){rib.Order, rib.Ring, rib.Colors, rib.Triple} {
			l, _ := call(r.n, r.edges)
			scribble(l, -9)
		}
		p, _ := rib.Tree(r.n, r.edges)
		scribble(p, api.Pair{A: -9, B: -9})
		s, _ := rib.Spans(r.n, r.edges)
		scribble(s, api.Span{Low: -9, High: -9})
		cliques, _ := rib.Cliques(r.n, r.edges)
		set, cover, _ := rib.Apart(r.n, r.edges)
		for _, lists := range [][][]int{cliques, append(cover, set)} {
			for i, l := range lists {
				scribble(l, -9-i)
			}
			for i, l := range lists {
				if slices.ContainsFunc(l, func(v int) bool { return v != -9-i }) {
					t.Errorf("two lists of one result share memory: %v", lists)
				}
			}
		}
		if second := all(); first != second {
			t.Errorf("%s\nand then\n%s", first, second)
		}
	}
}

// R4: nil and empty are the same.
func TestNilIsEmpty(t *testing.T) {
	for n := range 5 {
		first := everything(n, nil, nil, nil, nil, nil)
		second := everything(n, []api.Pair{}, []int{}, []int{}, []api.Pair{}, []api.Span{})
		if first != second {
			t.Errorf("%s\nand with empty slices\n%s", first, second)
		}
	}
}
