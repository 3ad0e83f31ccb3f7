package spring_test

import (
	"math/big"
	"slices"
	"testing"

	"gamp/api"
	"gamp/spring"
)

// S1: deletion and contraction.
func TestDeletionAndContraction(t *testing.T) {
	for _, w := range append(connectedNetworks(), looseNetworks()...) {
		for i, s := range w.springs {
			want := sum(w.without(i).trees(t), product(rat(s.K), w.joined(s.A, s.B).trees(t)))
			if k := w.trees(t); k.Cmp(want) != 0 {
				t.Errorf("Trees(%v) is %s; with and without spring %d there are %s", w, num(k), i, num(want))
			}
		}
	}
}

// S2: Between is Trees over Trees of the network with both nodes made one.
func TestKirchhoff(t *testing.T) {
	for _, w := range connectedNetworks() {
		for b := range w.n {
			for a := range b {
				want := quotient(w.trees(t), w.joined(a, b).trees(t))
				if k, back := w.between(t, a, b), w.between(t, b, a); k.Cmp(want) != 0 || back.Cmp(want) != 0 {
					t.Errorf("Between(%v, %d, %d) is %s, and back %s, not %s", w, a, b, num(k), num(back), num(want))
				}
			}
		}
	}
}

// S3: Foster's theorem.
func TestFoster(t *testing.T) {
	for _, w := range connectedNetworks() {
		total := new(big.Rat)
		for _, s := range w.springs {
			total = sum(total, quotient(rat(s.K), w.between(t, s.A, s.B)))
		}
		if total.Cmp(big.NewRat(int64(w.n-1), 1)) != 0 {
			t.Errorf("Foster's sum of %v is %s", w, num(total))
		}
	}
}

func (w network) energy(t *testing.T, flow []api.Num) *big.Rat {
	t.Helper()
	x, e := spring.Energy(w.n, w.springs, flow)
	if e != api.OK {
		t.Fatalf("Energy(%v, %v): %d", w, flow, e)
	}
	return rat(x)
}

// S4: Thomson's principle. Other flows that carry the load are those of springs that are not as stiff.
func TestThomson(t *testing.T) {
	for _, w := range connectedNetworks() {
		other := network{w.n, slices.Clone(w.springs)}
		for i, s := range other.springs {
			other.springs[i].K = num(product(rat(s.K), big.NewRat(int64(1+i), 2)))
		}
		for a := range w.n {
			b := (a + 1) % w.n
			flow, e := spring.Flow(w.n, w.springs, a, b)
			if ok, f := spring.Carries(w.n, w.springs, a, b, flow); e != api.OK || f != api.OK || !ok {
				t.Errorf("Flow(%v, %d, %d) = %v, %d; Carries = %t, %d", w, a, b, flow, e, ok, f)
			}
			energy := w.energy(t, flow)
			if product(energy, w.between(t, a, b)).Cmp(big.NewRat(1, 1)) != 0 {
				t.Errorf("the energy of Flow(%v, %d, %d) is %s", w, a, b, num(energy))
			}
			detour, _ := spring.Flow(other.n, other.springs, a, b)
			if ok, e := spring.Carries(w.n, w.springs, a, b, detour); e != api.OK || !ok {
				t.Errorf("Carries(%v, %d, %d, %v) = %t, %d", w, a, b, detour, ok, e)
			}
			if c := w.energy(t, detour).Cmp(energy); c < 0 || c == 0 && !slices.Equal(flow, detour) {
				t.Errorf("the energy of %v in %v is not more than that of %v", detour, w, flow)
			}
		}
	}
}

func (w network) drop(t *testing.T, node int) network {
	t.Helper()
	l, e := spring.Drop(w.n, w.springs, node)
	if e != api.OK {
		t.Fatalf("Drop(%v, %d): %d", w, node, e)
	}
	return network{w.n - 1, l}
}

// valid reports whether the stiffnesses are short enough for a network.
func (w network) valid() bool {
	return !slices.ContainsFunc(w.springs, func(s api.Spring) bool {
		k := rat(s.K)
		return len(k.Num().String()) > 20 || len(k.Denom().String()) > 20
	})
}

// S5: what Drop leaves as it is, and that the order of two nodes does not matter.
func TestStarAndMesh(t *testing.T) {
	checked := 0
	for _, w := range connectedNetworks() {
		for node := 0; node < w.n && w.n > 2; node++ {
			rest := w.drop(t, node)
			if !rest.valid() {
				continue
			}
			checked++
			for b := range w.n {
				for a := range b {
					if a == node || b == node {
						continue
					}
					if k := rest.between(t, less(a, node), less(b, node)); k.Cmp(w.between(t, a, b)) != 0 {
						t.Errorf("dropping %d of %v makes Between(%d, %d) %s", node, w, a, b, num(k))
					}
				}
			}
			for second := 0; second < node && w.n > 3; second++ {
				first := w.drop(t, second)
				if !first.valid() {
					continue
				}
				one, other := rest.drop(t, second), first.drop(t, node-1)
				if !slices.Equal(one.springs, other.springs) {
					t.Errorf("%v without %d and %d is %v or %v", w, node, second, one, other)
				}
			}
		}
	}
	if checked < 60 {
		t.Errorf("only %d networks were small enough", checked)
	}
}

// S6: a stiffer spring, or one more, never makes Between less.
func TestRayleigh(t *testing.T) {
	for i, w := range connectedNetworks() {
		stiffer := network{w.n, slices.Clone(w.springs)}
		j := i % len(w.springs)
		stiffer.springs[j].K = num(product(rat(w.springs[j].K), big.NewRat(10, 9)))
		more := network{w.n, append(slices.Clone(w.springs), api.Spring{A: w.n - 1, B: i % (w.n - 1), K: "1/1000"})}
		for b := range w.n {
			for a := range b {
				k := w.between(t, a, b)
				if stiffer.between(t, a, b).Cmp(k) < 0 || more.between(t, a, b).Cmp(k) < 0 {
					t.Errorf("Between(%d, %d) of %v or %v is less than that of %v", a, b, stiffer, more, w)
				}
			}
		}
		if s := w.springs[j]; stiffer.between(t, s.A, s.B).Cmp(w.between(t, s.A, s.B)) <= 0 {
			t.Errorf("spring %d of %v does not count", j, w)
		}
	}
}

// S7: reciprocity.
func TestReciprocity(t *testing.T) {
	for i, w := range connectedNetworks() {
		a, b := i%w.n, (i+1)%w.n
		x := w.moved(t, a, b)
		for c := range w.n {
			for d := range w.n {
				if c == d {
					continue
				}
				if y := w.moved(t, c, d); minus(x[c], x[d]).Cmp(minus(y[a], y[b])) != 0 {
					t.Errorf("%v: a load %d to %d does not do to %d, %d what one there does to it", w, a, b, c, d)
				}
			}
		}
	}
}
