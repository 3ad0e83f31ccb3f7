package spring_test

import (
	"fmt"
	"slices"
	"testing"

	"gamp/api"
	"gamp/spring"
)

// everything returns the results of all functions, as text.
func (c call) everything() string {
	k, e := spring.Trees(c.n, c.springs)
	text := fmt.Sprintln(k, e)
	l, e := spring.Move(c.n, c.springs, c.forces)
	text += fmt.Sprintln(l, e)
	k, e = spring.Between(c.n, c.springs, c.a, c.b)
	text += fmt.Sprintln(k, e)
	l, e = spring.Flow(c.n, c.springs, c.a, c.b)
	text += fmt.Sprintln(l, e)
	ok, e := spring.Carries(c.n, c.springs, c.a, c.b, c.flow)
	text += fmt.Sprintln(ok, e)
	k, e = spring.Energy(c.n, c.springs, c.flow)
	text += fmt.Sprintln(k, e)
	s, e := spring.Drop(c.n, c.springs, c.node)
	return text + fmt.Sprintln(s, e)
}

// roomy returns a copy with more memory behind it, which nothing may write to.
func roomy[Element any](list []Element) []Element {
	var none Element
	long := append(slices.Clone(list), none, none, none)
	return long[:len(list)]
}

func untouched[Element comparable](list, was []Element) bool {
	var none Element
	return slices.Equal(list[:len(list)+3], append(slices.Clone(was), none, none, none))
}

// R5 and R6: arguments are not changed, and the same arguments give the same results, whatever lies behind them.
func TestArgumentsStay(t *testing.T) {
	calls := []call{good(), {}, {n: 2}, {3, springsOf("0-1:2/2"), 0, 1, 2, []api.Num{"x"}, []api.Num{"y"}}}
	for _, w := range connectedNetworks() {
		flow, _ := spring.Flow(w.n, w.springs, 0, 1)
		calls = append(calls, call{w.n, w.springs, 0, 1, w.n - 1, w.load(1, 0), flow})
	}
	for _, c := range calls {
		other := call{c.n, roomy(c.springs), c.a, c.b, c.node, roomy(c.forces), roomy(c.flow)}
		springs, forces, flow := slices.Clone(c.springs), slices.Clone(c.forces), slices.Clone(c.flow)
		first := other.everything()
		if !untouched(other.springs, springs) || !untouched(other.forces, forces) || !untouched(other.flow, flow) {
			t.Errorf("changed: %v, from %v %v %v", other, springs, forces, flow)
		}
		for range 5 {
			if second := c.everything(); first != second {
				t.Errorf("%s\nand then\n%s", first, second)
			}
		}
	}
}

// R5: results are new memory.
func TestResultsAreNew(t *testing.T) {
	c := good()
	first := c.everything()
	x, _ := spring.Move(c.n, c.springs, c.forces)
	flow, _ := spring.Flow(c.n, c.springs, c.a, c.b)
	springs, _ := spring.Drop(c.n, c.springs, c.node)
	for _, list := range [][]api.Num{x[:cap(x)], flow[:cap(flow)]} {
		for i := range list {
			list[i] = "77"
		}
	}
	for i := range springs[:cap(springs)] {
		springs[:cap(springs)][i] = api.Spring{A: 7, B: 8, K: "9"}
	}
	if second := c.everything(); first != second {
		t.Errorf("%s\nand then\n%s", first, second)
	}
}

// R4: nil and empty are the same.
func TestNilIsEmpty(t *testing.T) {
	for n := range 5 {
		none := call{n: n, b: 1}
		empty := call{n, []api.Spring{}, 0, 1, 0, []api.Num{}, []api.Num{}}
		if none.everything() != empty.everything() {
			t.Errorf("nil and empty slices differ for %d nodes", n)
		}
	}
}

// The order and the direction of springs do not matter.
func TestOrderOfSprings(t *testing.T) {
	for _, w := range connectedNetworks() {
		turned := slices.Clone(w.springs)
		slices.Reverse(turned)
		for i, s := range turned {
			turned[i].A, turned[i].B = s.B, s.A
		}
		flow, _ := spring.Flow(w.n, w.springs, 0, 1)
		back, _ := spring.Flow(w.n, turned, 1, 0)
		slices.Reverse(back)
		if !slices.Equal(flow, back) {
			t.Errorf("Flow(%v) = %v, or turned %v", w, flow, back)
		}
		k, _ := spring.Trees(w.n, w.springs)
		if l, e := spring.Trees(w.n, turned); e != api.OK || k != l {
			t.Errorf("Trees(%v) = %s, or turned %s", w, k, l)
		}
	}
}
