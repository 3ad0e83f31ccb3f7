package spring_test

import (
	"math/big"
	"slices"
	"testing"

	"gamp/api"
	"gamp/spring"
)

func TestExamples(t *testing.T) {
	two, row, triangle := springsOf("0-1:2 0-1:3"), springsOf("0-1:2 1-2:2"), springsOf("0-1:1 1-2:1 0-2:1")
	if k, e := spring.Between(2, two, 0, 1); e != api.OK || k != "5" {
		t.Errorf("Between = %s, %d", k, e)
	}
	if k, e := spring.Trees(2, two); e != api.OK || k != "5" {
		t.Errorf("Trees = %s, %d", k, e)
	}
	if k, e := spring.Between(3, row, 0, 2); e != api.OK || k != "1" {
		t.Errorf("Between = %s, %d", k, e)
	}
	if l, e := spring.Flow(3, row, 0, 2); e != api.OK || !slices.Equal(l, []api.Num{"1", "1"}) {
		t.Errorf("Flow = %v, %d", l, e)
	}
	if l, e := spring.Drop(3, row, 1); e != api.OK || !slices.Equal(l, springsOf("0-1:1")) {
		t.Errorf("Drop = %v, %d", l, e)
	}
	if k, e := spring.Trees(3, triangle); e != api.OK || k != "3" {
		t.Errorf("Trees = %s, %d", k, e)
	}
	if k, e := spring.Between(3, triangle, 0, 1); e != api.OK || k != "3/2" {
		t.Errorf("Between = %s, %d", k, e)
	}
	if l, e := spring.Flow(3, triangle, 0, 1); e != api.OK || !slices.Equal(l, []api.Num{"2/3", "-1/3", "1/3"}) {
		t.Errorf("Flow = %v, %d", l, e)
	}
	if l, e := spring.Move(3, row, []api.Num{"-1", "0", "1"}); e != api.OK || !slices.Equal(l, []api.Num{"0", "1/2", "1"}) {
		t.Errorf("Move = %v, %d", l, e)
	}
}

func TestTrees(t *testing.T) {
	for _, w := range append(connectedNetworks(), looseNetworks()...) {
		if k, e := spring.Trees(w.n, w.springs); e != api.OK || k != num(w.treesOf()) {
			t.Errorf("Trees(%v) = %s, %d, not %s", w, k, e, num(w.treesOf()))
		}
	}
	for _, w := range looseNetworks() {
		if k, e := spring.Trees(w.n, w.springs); e != api.OK || k != "0" {
			t.Errorf("Trees(%v) = %s, %d", w, k, e)
		}
	}
}

// Ten nodes of which each two have a spring would have too many; with nine there are n^(n-2) trees (Cayley).
func TestTreesOfAll(t *testing.T) {
	for n := 2; n <= 9; n++ {
		var springs []api.Spring
		for b := range n {
			for a := range b {
				springs = append(springs, api.Spring{A: b, B: a, K: "1/2"})
			}
		}
		want := new(big.Rat).SetInt(new(big.Int).Exp(big.NewInt(int64(n)), big.NewInt(int64(n-2)), nil))
		want.Quo(want, new(big.Rat).SetInt64(1<<(n-1)))
		if k, e := spring.Trees(n, springs); e != api.OK || k != num(want) {
			t.Errorf("Trees of %d nodes = %s, %d, not %s", n, k, e, num(want))
		}
	}
}

func TestMove(t *testing.T) {
	for i, w := range connectedNetworks() {
		for _, scale := range []string{"0", "1", "-7/3", "123456789012345678901234567890/7", "1/1000000000000000000000"} {
			forces, total := make([]api.Num, w.n), new(big.Rat)
			for j := 1; j < w.n; j++ {
				f := product(rat(api.Num(scale)), big.NewRat(int64((i+1)*j%5-2), int64(j)))
				forces[j], total = num(f), sum(total, f)
			}
			forces[0] = num(new(big.Rat).Neg(total))
			x, e := spring.Move(w.n, w.springs, forces)
			if e != api.OK || !w.isMove(rats(x), rats(forces)) {
				t.Errorf("Move(%v, %v) = %v, %d", w, forces, x, e)
			}
			for _, k := range x {
				if num(rat(k)) != k {
					t.Errorf("Move(%v, %v) returns %s, which is not valid", w, forces, k)
				}
			}
		}
	}
}

// Between and Flow are what displacements make of them.
func TestBetweenAndFlow(t *testing.T) {
	for _, w := range connectedNetworks() {
		for a := range w.n {
			for b := range w.n {
				if a == b {
					continue
				}
				x := w.moved(t, a, b)
				want := quotient(big.NewRat(1, 1), minus(x[a], x[b]))
				if k, e := spring.Between(w.n, w.springs, a, b); e != api.OK || k != num(want) {
					t.Errorf("Between(%v, %d, %d) = %s, %d, not %s", w, a, b, k, e, num(want))
				}
				var flow []api.Num
				for _, s := range w.springs {
					flow = append(flow, num(product(rat(s.K), minus(x[s.A], x[s.B]))))
				}
				if l, e := spring.Flow(w.n, w.springs, a, b); e != api.OK || !slices.Equal(l, flow) {
					t.Errorf("Flow(%v, %d, %d) = %v, %d, not %v", w, a, b, l, e, flow)
				}
			}
		}
	}
}

func TestCarries(t *testing.T) {
	square := springsOf("0-1:1 1-2:1/2 3-2:3 3-0:1 0-1:7")
	for _, c := range []struct {
		n       int
		springs []api.Spring
		a, b    int
		flow    []api.Num
		want    bool
	}{
		{4, square, 0, 2, []api.Num{"1", "1", "0", "0", "0"}, true},
		{4, square, 0, 2, []api.Num{"0", "1", "0", "0", "1"}, true},
		{4, square, 0, 2, []api.Num{"0", "0", "1", "-1", "0"}, true},
		{4, square, 0, 2, []api.Num{"5", "1/3", "2/3", "-2/3", "-14/3"}, true},
		{4, square, 2, 0, []api.Num{"-1", "-1", "0", "0", "0"}, true},
		{4, square, 2, 0, []api.Num{"1", "1", "0", "0", "0"}, false},       // from 0 to 2
		{4, square, 0, 2, []api.Num{"2", "2", "0", "0", "0"}, false},       // twice the load
		{4, square, 0, 2, []api.Num{"0", "0", "1", "1", "0"}, false},       // the wrong way from 0 to 3
		{4, square, 0, 2, []api.Num{"0", "0", "0", "0", "0"}, false},       // nothing
		{4, square, 0, 2, []api.Num{"1", "0", "0", "0", "0"}, false},       // ends at 1
		{4, square, 0, 2, []api.Num{"1", "1", "1", "1", "0"}, false},       // comes to 0 and 2, too
		{4, square, 0, 1, []api.Num{"1", "1", "0", "0", "0"}, false},       // ends at 2
		{4, square, 0, 2, []api.Num{"1/2", "1", "0", "0", "1/3"}, false},   // some of it is lost at 1
		{4, square, 1, 2, []api.Num{"1", "2", "1", "-1", "0"}, false},      // 0 adds to it
		{4, square, 0, 2, []api.Num{"1", "1", "1", "0", "0"}, false},       // 3 adds to it
		{5, square, 0, 2, []api.Num{"1", "1", "0", "0", "0"}, true},        // not connected
		{5, square, 0, 4, []api.Num{"1", "1", "0", "0", "0"}, false},       // not connected
		{2, nil, 0, 1, nil, false},                                         // no springs
		{3, springsOf("1-2:5"), 2, 1, []api.Num{"-1"}, true},               // not connected
		{2, springsOf("0-1:1 0-1:1"), 0, 1, []api.Num{"1/3", "2/3"}, true}, // parallel
	} {
		ok, e := spring.Carries(c.n, c.springs, c.a, c.b, c.flow)
		if e != api.OK || ok != c.want {
			t.Errorf("Carries(%d, %v, %d, %d, %v) = %t, %d", c.n, c.springs, c.a, c.b, c.flow, ok, e)
		}
	}
}

func TestEnergy(t *testing.T) {
	springs := springsOf("0-1:1 1-2:1/2 3-2:3 3-0:1 0-1:7")
	for _, c := range []struct {
		n       int
		springs []api.Spring
		flow    []api.Num
		want    api.Num
	}{
		{4, springs, []api.Num{"1", "1", "0", "0", "0"}, "3"},
		{4, springs, []api.Num{"0", "0", "0", "0", "0"}, "0"},
		{4, springs, []api.Num{"-1", "2", "3", "-1/2", "7"}, "77/4"}, // 1 + 8 + 3 + 1/4 + 7
		{4, springs, []api.Num{"1/3", "0", "0", "0", "1/3"}, "8/63"},
		{5, springs, []api.Num{"1", "1", "0", "0", "0"}, "3"}, // not connected
		{2, nil, nil, "0"},
		{9, nil, nil, "0"},
		{2, springsOf("1-0:4/9"), []api.Num{"-2/3"}, "1"},
	} {
		if x, e := spring.Energy(c.n, c.springs, c.flow); e != api.OK || x != c.want {
			t.Errorf("Energy(%d, %v, %v) = %s, %d, not %s", c.n, c.springs, c.flow, x, e, c.want)
		}
	}
}

func TestDrop(t *testing.T) {
	for _, c := range []struct {
		n       int
		springs []api.Spring
		node    int
		want    []api.Spring
	}{
		{3, springsOf("0-1:2 1-2:2"), 0, springsOf("0-1:2")},
		{3, springsOf("0-1:2 1-2:2"), 2, springsOf("0-1:2")},
		{4, springsOf("3-0:1 3-1:1 3-2:1"), 3, springsOf("0-1:1/3 0-2:1/3 1-2:1/3")},
		{4, springsOf("3-0:1 3-1:1 3-2:1"), 1, springsOf("0-2:1 1-2:1")},
		{4, springsOf("2-1:1 1-2:4 0-3:1/2"), 3, springsOf("1-2:5")},
		{4, springsOf("2-1:1 1-2:4 3-1:1/2"), 0, springsOf("0-1:5 0-2:1/2")}, // nothing at the node
		{3, nil, 1, nil},
		{3, springsOf("0-1:5"), 1, nil},
		{4, springsOf("0-1:1 1-2:1 2-3:1 3-0:1 0-2:1/2"), 1, springsOf("0-1:1 0-2:1 1-2:1")},
	} {
		if l, e := spring.Drop(c.n, c.springs, c.node); e != api.OK || !slices.Equal(l, c.want) {
			t.Errorf("Drop(%d, %v, %d) = %v, %d, not %v", c.n, c.springs, c.node, l, e, c.want)
		}
	}
	for _, w := range append(connectedNetworks(), looseNetworks()...) {
		for node := range w.n {
			if w.n < 3 {
				continue
			}
			want := w.dropped(node)
			if l, e := spring.Drop(w.n, w.springs, node); e != api.OK || !slices.Equal(l, want) {
				t.Errorf("Drop(%v, %d) = %v, %d, not %v", w, node, l, e, want)
			}
		}
	}
}
