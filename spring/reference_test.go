package spring_test

import (
	"math/big"
	"math/rand"
	"slices"
	"strconv"
	"strings"
	"testing"

	"gamp/api"
	"gamp/spring"
)

// This file holds networks for the tests, and works with them by the words of the chapter, with none of the package's code.

type network struct {
	n       int
	springs []api.Spring
}

func rat(num api.Num) *big.Rat {
	r, ok := new(big.Rat).SetString(string(num))
	if !ok {
		panic("no number: " + string(num))
	}
	return r
}

func num(r *big.Rat) api.Num {
	return api.Num(r.RatString())
}

func rats(nums []api.Num) []*big.Rat {
	var all []*big.Rat
	for _, n := range nums {
		all = append(all, rat(n))
	}
	return all
}

func sum(all ...*big.Rat) *big.Rat {
	total := new(big.Rat)
	for _, r := range all {
		total.Add(total, r)
	}
	return total
}

func product(x, y *big.Rat) *big.Rat  { return new(big.Rat).Mul(x, y) }
func quotient(x, y *big.Rat) *big.Rat { return new(big.Rat).Quo(x, y) }
func minus(x, y *big.Rat) *big.Rat    { return new(big.Rat).Sub(x, y) }

// springsOf reads springs written like 0-1:2/3.
func springsOf(text string) []api.Spring {
	var springs []api.Spring
	for _, word := range strings.Fields(text) {
		ends, k, _ := strings.Cut(word, ":")
		a, b, _ := strings.Cut(ends, "-")
		x, _ := strconv.Atoi(a)
		y, _ := strconv.Atoi(b)
		springs = append(springs, api.Spring{A: x, B: y, K: api.Num(k)})
	}
	return springs
}

func randomNum(random *rand.Rand, digits int) api.Num {
	limit := new(big.Int).Exp(big.NewInt(10), big.NewInt(int64(1+random.Intn(digits))), nil)
	limit.Sub(limit, big.NewInt(1))
	one := big.NewInt(1)
	upper, lower := new(big.Int).Rand(random, limit), new(big.Int).Rand(random, limit)
	return num(new(big.Rat).SetFrac(upper.Add(upper, one), lower.Add(lower, one)))
}

// randomNetwork is connected if there are springs enough for it.
func randomNetwork(random *rand.Rand, n, count, digits int) network {
	var springs []api.Spring
	for node := 1; node < n && len(springs) < count; node++ {
		springs = append(springs, api.Spring{A: node, B: random.Intn(node), K: randomNum(random, digits)})
	}
	for len(springs) < count {
		a, b := random.Intn(n), random.Intn(n)
		if a != b {
			springs = append(springs, api.Spring{A: a, B: b, K: randomNum(random, digits)})
		}
	}
	random.Shuffle(len(springs), func(i, j int) { springs[i], springs[j] = springs[j], springs[i] })
	return network{n, springs}
}

// connectedNetworks returns small ones by hand, and random ones of up to 6 nodes and 12 springs.
func connectedNetworks() []network {
	all := []network{
		{2, springsOf("0-1:2 1-0:3")},
		{2, springsOf("1-0:1/7")},
		{3, springsOf("0-1:2 1-2:2")},
		{3, springsOf("0-1:1 1-2:1 0-2:1")},
		{4, springsOf("0-1:1 1-2:1 2-3:1 3-0:1")},
		{4, springsOf("3-2:1/2 2-0:5 0-1:7/3 1-3:4 1-2:1 2-1:1/9")},
		{4, springsOf("0-3:2 1-3:3 2-3:5")},
		{5, springsOf("0-1:1 0-2:1 0-3:1 0-4:1 1-2:1 1-3:1 1-4:1 2-3:1 2-4:1 3-4:1")},
	}
	random := rand.New(rand.NewSource(6))
	for i := range 40 {
		n := 2 + i%5
		all = append(all, randomNetwork(random, n, n-1+random.Intn(14-n), 1+i%6))
	}
	return all
}

// looseNetworks are not connected.
func looseNetworks() []network {
	return []network{
		{2, nil},
		{3, springsOf("0-1:1")},
		{3, springsOf("1-2:1 2-1:5")},
		{4, springsOf("0-1:1 2-3:1")},
		{5, springsOf("1-2:1 2-3:1 3-4:1 4-1:1")},
		{10, springsOf("0-1:1 1-2:1 2-3:1 3-4:1 4-5:1 5-6:1 6-7:1 7-8:1 8-0:1 4-8:3/7")},
	}
}

// treesOf adds up the weights of all sets of springs that are spanning trees.
func (w network) treesOf() *big.Rat {
	total := new(big.Rat)
	for set := range 1 << len(w.springs) {
		group := make([]int, w.n)
		for i := range group {
			group[i] = i
		}
		weight, chosen, cycle := big.NewRat(1, 1), 0, false
		for i, s := range w.springs {
			if set>>i&1 == 0 {
				continue
			}
			chosen++
			weight = product(weight, rat(s.K))
			from, to := group[s.A], group[s.B]
			cycle = cycle || from == to
			for j := range group {
				if group[j] == from {
					group[j] = to
				}
			}
		}
		if !cycle && chosen == w.n-1 {
			total.Add(total, weight)
		}
	}
	return total
}

// isMove reports whether x are displacements under the forces.
func (w network) isMove(x, forces []*big.Rat) bool {
	if len(x) != w.n || x[0].Sign() != 0 {
		return false
	}
	for i := range w.n {
		pull := new(big.Rat)
		for _, s := range w.springs {
			if s.A == i {
				pull = sum(pull, product(rat(s.K), minus(x[i], x[s.B])))
			}
			if s.B == i {
				pull = sum(pull, product(rat(s.K), minus(x[i], x[s.A])))
			}
		}
		if pull.Cmp(forces[i]) != 0 {
			return false
		}
	}
	return true
}

// load returns the forces of a load from a to b.
func (w network) load(a, b int) []api.Num {
	forces := slices.Repeat([]api.Num{"0"}, w.n)
	forces[a], forces[b] = "1", "-1"
	return forces
}

// moved returns the displacements under a load, which are checked by their definition.
func (w network) moved(t *testing.T, a, b int) []*big.Rat {
	t.Helper()
	x, e := spring.Move(w.n, w.springs, w.load(a, b))
	if e != api.OK || !w.isMove(rats(x), rats(w.load(a, b))) {
		t.Fatalf("Move(%v, load %d to %d) = %v, %d", w, a, b, x, e)
	}
	return rats(x)
}

func (w network) trees(t *testing.T) *big.Rat {
	t.Helper()
	if w.n == 1 {
		return big.NewRat(1, 1)
	}
	k, e := spring.Trees(w.n, w.springs)
	if e != api.OK {
		t.Fatalf("Trees(%v): %d", w, e)
	}
	return rat(k)
}

func (w network) between(t *testing.T, a, b int) *big.Rat {
	t.Helper()
	k, e := spring.Between(w.n, w.springs, a, b)
	if e != api.OK {
		t.Fatalf("Between(%v, %d, %d): %d", w, a, b, e)
	}
	return rat(k)
}

// joined makes two nodes one, and leaves out the springs between them.
func (w network) joined(a, b int) network {
	number := func(node int) int {
		if node == max(a, b) {
			return min(a, b)
		}
		if node > max(a, b) {
			return node - 1
		}
		return node
	}
	var springs []api.Spring
	for _, s := range w.springs {
		if from, to := number(s.A), number(s.B); from != to {
			springs = append(springs, api.Spring{A: from, B: to, K: s.K})
		}
	}
	return network{w.n - 1, springs}
}

// without leaves out a spring.
func (w network) without(i int) network {
	return network{w.n, slices.Delete(slices.Clone(w.springs), i, i+1)}
}

// dropped is the network without a node, by the chapter's formula.
func (w network) dropped(node int) []api.Spring {
	total := func(a, b int) *big.Rat {
		k := new(big.Rat)
		for _, s := range w.springs {
			if s.A == a && s.B == b || s.A == b && s.B == a {
				k = sum(k, rat(s.K))
			}
		}
		return k
	}
	s := new(big.Rat)
	for i := range w.n {
		s = sum(s, total(node, i))
	}
	var springs []api.Spring
	for a := range w.n {
		for b := a + 1; b < w.n; b++ {
			if a == node || b == node {
				continue
			}
			k := total(a, b)
			if s.Sign() != 0 {
				k = sum(k, quotient(product(total(node, a), total(node, b)), s))
			}
			if k.Sign() > 0 {
				springs = append(springs, api.Spring{A: less(a, node), B: less(b, node), K: num(k)})
			}
		}
	}
	return springs
}

func less(a, node int) int {
	if a > node {
		return a - 1
	}
	return a
}

func TestReference(t *testing.T) {
	triangle := network{3, springsOf("0-1:1 1-2:1 0-2:1")}
	if k := triangle.treesOf(); num(k) != "3" {
		t.Errorf("the reference finds the weight %s of the trees of a triangle", num(k))
	}
	if x := []api.Num{"0", "1/2", "1"}; !(network{3, springsOf("0-1:2 1-2:2")}).isMove(rats(x), rats([]api.Num{"-1", "0", "1"})) {
		t.Errorf("the reference does not accept %v", x)
	}
	if l := (network{3, springsOf("0-1:2 1-2:2")}).dropped(1); !slices.Equal(l, springsOf("0-1:1")) {
		t.Errorf("the reference drops to %v", l)
	}
}
