package spring_test

import (
	"math/big"
	"math/rand"
	"slices"
	"strings"
	"testing"

	"gamp/api"
	"gamp/spring"
)

// power returns 10^zeros.
func power(zeros int) api.Num {
	return api.Num("1" + strings.Repeat("0", zeros))
}

func TestLimitsOfNetworks(t *testing.T) {
	nines := api.Num(strings.Repeat("9", 20))
	for _, k := range []api.Num{nines, "1/" + nines, "99999999999999999998/" + nines, "12345678901234567890", "1"} {
		if got, e := spring.Between(2, []api.Spring{{A: 1, B: 0, K: k}}, 0, 1); e != api.OK || got != k {
			t.Errorf("Between of %s = %s, %d", k, got, e)
		}
	}
	if k, e := spring.Trees(2, slices.Repeat(springsOf("0-1:1/3 1-0:2/3"), 20)); e != api.OK || k != "20" {
		t.Errorf("Trees of 40 springs = %s, %d", k, e)
	}
	var path []api.Spring
	for i := range 9 {
		path = append(path, api.Spring{A: i, B: i + 1, K: "1/2"})
	}
	if k, e := spring.Between(10, path, 0, 9); e != api.OK || k != "1/18" {
		t.Errorf("Between of 10 nodes = %s, %d", k, e)
	}
}

// The largest networks are exact, too: their displacements are checked by the definition, and Trees by Kirchhoff's theorem.
func TestLargestNetworks(t *testing.T) {
	random := rand.New(rand.NewSource(7))
	for range 3 {
		w := randomNetwork(random, 10, 40, 20)
		x := w.moved(t, 9, 3)
		if k := w.between(t, 9, 3); product(k, minus(x[9], x[3])).Cmp(big.NewRat(1, 1)) != 0 {
			t.Errorf("Between(%v, 9, 3) = %s", w, num(k))
		}
		if k := w.between(t, 4, 7); product(k, w.joined(4, 7).trees(t)).Cmp(w.trees(t)) != 0 {
			t.Errorf("Between(%v, 4, 7) = %s is not as the trees say", w, num(k))
		}
		flow, e := spring.Flow(w.n, w.springs, 9, 3)
		if ok, f := spring.Carries(w.n, w.springs, 9, 3, flow); e != api.OK || f != api.OK || !ok {
			t.Errorf("Flow(%v, 9, 3) carries %t, %d, %d", w, ok, e, f)
		}
		if l, e := spring.Drop(w.n, w.springs, 5); e != api.OK || !slices.Equal(l, w.dropped(5)) {
			t.Errorf("Drop(%v, 5): %d, and not as it must be", w, e)
		}
	}
}

func TestErrRangeOfMove(t *testing.T) {
	for _, c := range []struct {
		k, force, want api.Num
	}{
		{"1", power(3999), power(3999)},
		{"1/10", power(3998), power(3999)},
		{"1/10", power(3999), ""}, // 4001 digits
		{"2", "1/5" + power(3999)[1:], ""},
		{"2", "1/5" + power(3998)[1:], "1/" + power(3999)},
		{"10", "1/" + power(3998), "1/" + power(3999)},
		{"10", "1/" + power(3999), ""},
		{"3", api.Num(strings.Repeat("9", 4000)), api.Num(strings.Repeat("3", 4000))},
	} {
		want := []api.Num{"0", c.want}
		e := api.OK
		if c.want == "" {
			want, e = nil, api.ErrRange
		}
		for _, sign := range []api.Num{"", "-"} {
			forces := []api.Num{"-" + c.force, c.force}
			if sign == "-" {
				forces[0], forces[1] = forces[1], forces[0]
			}
			if sign == "-" && len(want) > 0 {
				want[1] = sign + want[1]
			}
			if l, f := spring.Move(2, []api.Spring{{A: 0, B: 1, K: c.k}}, forces); f != e || !slices.Equal(l, want) {
				t.Errorf("Move with %s, %s%.20s.. : %d, not %d, or other displacements", c.k, sign, c.force, f, e)
			}
		}
	}
	// One result that is too long is enough.
	if l, e := spring.Move(3, springsOf("0-1:1 1-2:1/10"), []api.Num{"-" + power(3999), "0", power(3999)}); e != api.ErrRange || len(l) != 0 {
		t.Errorf("Move: %d, and %d displacements", e, len(l))
	}
	if l, e := spring.Move(3, springsOf("0-1:1/10 1-2:1"), []api.Num{"-" + power(3999), power(3999), "0"}); e != api.ErrRange || len(l) != 0 {
		t.Errorf("Move: %d, and %d displacements", e, len(l))
	}
	// ErrNone comes first.
	if l, e := spring.Move(2, springsOf("0-1:1/10"), []api.Num{power(3999), power(3999)}); e != api.ErrNone || len(l) != 0 {
		t.Errorf("Move: %d, and %d displacements", e, len(l))
	}
}

func TestErrRangeOfEnergy(t *testing.T) {
	nines, squared := strings.Repeat("9", 2000), strings.Repeat("9", 1999)+"8"+strings.Repeat("0", 1999)+"1"
	for _, c := range []struct {
		k, flow, want api.Num
	}{
		{"1", api.Num(nines), api.Num(squared)},
		{"1", api.Num("-1/" + nines), api.Num("1/" + squared)},
		{"1", power(2000), ""}, // 4001 digits
		{"1", "-" + power(2000), ""},
		{"1", "1/" + power(2000), ""},
		{"10", power(2000), power(3999)},
		{"1/10", "1/" + power(2000), "1/" + power(3999)},
		{"1/1000", power(1998), power(3999)},
		{"1/10000", power(1998), ""},
		{"1", power(3999), ""},
	} {
		e := api.OK
		if c.want == "" {
			e = api.ErrRange
		}
		if x, f := spring.Energy(2, []api.Spring{{A: 0, B: 1, K: c.k}}, []api.Num{c.flow}); f != e || x != c.want {
			t.Errorf("Energy of %.20s.. with %s: %d, not %d, or another energy", c.flow, c.k, f, e)
		}
	}
}

// pythagoras returns two long Nums the sum of whose squares is 1.
func pythagoras() (api.Num, api.Num) {
	m := new(big.Int).Exp(big.NewInt(10), big.NewInt(1500), nil)
	one, square := big.NewInt(1), new(big.Int).Mul(m, m)
	long := new(big.Int).Add(square, one)
	first := new(big.Rat).SetFrac(new(big.Int).Sub(square, one), long)
	second := new(big.Rat).SetFrac(new(big.Int).Lsh(m, 1), long)
	return num(first), num(second)
}

// Only results are limited: what is added up may have more digits.
func TestLongSums(t *testing.T) {
	first, second := pythagoras()
	if x, e := spring.Energy(3, springsOf("0-1:1 1-2:1"), []api.Num{first, "-" + second}); e != api.OK || x != "1" {
		t.Errorf("Energy: %d, and %d digits", e, len(x))
	}
	if x, e := spring.Energy(3, springsOf("0-1:1 1-2:1 0-2:3"), []api.Num{first, second, "0"}); e != api.OK || x != "1" {
		t.Errorf("Energy: %d, and %d digits", e, len(x))
	}
	if x, e := spring.Energy(3, springsOf("0-1:1 1-2:2"), []api.Num{first, second}); e != api.ErrRange || x != "" {
		t.Errorf("Energy: %d, and %d digits", e, len(x))
	}
}

// longForces returns ten Nums with the sum 0, of which each two that follow each other have a long divisor of their denominators in common.
func longForces() []api.Num {
	random := rand.New(rand.NewSource(8))
	limit := new(big.Int).Exp(big.NewInt(10), big.NewInt(1990), nil)
	var forces []api.Num
	last := new(big.Rat)
	for range 9 {
		den := new(big.Int).Rand(random, limit)
		next := new(big.Rat).SetFrac(big.NewInt(1), den.Add(den, limit))
		forces = append(forces, num(minus(next, last)))
		last = next
	}
	return append(forces, num(new(big.Rat).Neg(last)))
}

func TestLongFlows(t *testing.T) {
	springs, flow := slices.Repeat(springsOf("0-1:2"), 10), longForces()
	for _, c := range []struct {
		add  *big.Rat
		want bool
	}{{big.NewRat(1, 1), true}, {big.NewRat(1000000008, 1000000007), false}, {big.NewRat(0, 1), false}, {big.NewRat(-1, 1), false}} {
		carried := slices.Clone(flow)
		carried[9] = num(sum(rat(flow[9]), c.add))
		if ok, e := spring.Carries(2, springs, 0, 1, carried); e != api.OK || ok != c.want {
			t.Errorf("Carries of long flows = %t, %d, not %t", ok, e, c.want)
		}
	}
}

func TestLongForces(t *testing.T) {
	forces := longForces()
	var hub, path []api.Spring
	for i := range 9 {
		hub = append(hub, api.Spring{A: i + 1, B: 0, K: "1/2"})
		path = append(path, api.Spring{A: i, B: i + 1, K: "1/2"})
	}
	w := network{10, hub}
	if x, e := spring.Move(10, hub, forces); e != api.OK || !w.isMove(rats(x), rats(forces)) {
		t.Errorf("Move of a hub: %d", e)
	}
	if x, e := spring.Move(10, path, forces); e != api.ErrRange || len(x) != 0 {
		t.Errorf("Move of a path: %d", e)
	}
	forces[9] = num(sum(rat(forces[9]), big.NewRat(1, 1000000007)))
	if x, e := spring.Move(10, hub, forces); e != api.ErrNone || len(x) != 0 {
		t.Errorf("Move with forces that are not in balance: %d", e)
	}
}

// All that is given is as long as it can be.
func TestLongestArguments(t *testing.T) {
	var flow []api.Num
	for i := range 12 {
		upper := strings.Repeat("1", 3990) + strings.Repeat(string(rune('2'+i%8)), 10)
		flow = append(flow, num(new(big.Rat).SetFrac(rat(api.Num(upper)).Num(), rat(power(3999-i)).Num())))
	}
	w := network{2, slices.Repeat(springsOf("0-1:1/7"), 12)}
	if x, e := spring.Energy(2, w.springs, flow); e != api.ErrRange || x != "" {
		t.Errorf("Energy: %d", e)
	}
	if ok, e := spring.Carries(2, w.springs, 0, 1, flow); e != api.OK || ok {
		t.Errorf("Carries = %t, %d", ok, e)
	}
	forces := []api.Num{"-" + flow[0], flow[0]}
	if x, e := spring.Move(2, springsOf("0-1:1"), forces); e != api.OK || !slices.Equal(x, []api.Num{"0", flow[0]}) {
		t.Errorf("Move: %d", e)
	}
}
