package wind_test

import (
	"math/big"
	"math/rand"
	"slices"
	"testing"

	"gamp/api"
	"gamp/wind"
)

// W1 (Bellman): Proves accepts Value's numbers, and no others.
func TestBellman(t *testing.T) {
	for _, g := range someGames() {
		v := g.value(t)
		g.checkProves(t, nums(v), true)
		for s := range v {
			for _, add := range []*big.Rat{big.NewRat(1, 1), big.NewRat(-1, 1), big.NewRat(1, 1<<62), big.NewRat(-1, 1<<62)} {
				others := slices.Clone(v)
				others[s] = plus(v[s], add)
				g.checkProves(t, nums(others), false)
			}
		}
		all := make([]*big.Rat, len(v))
		for s := range v {
			all[s] = plus(v[s], big.NewRat(1, 3))
		}
		g.checkProves(t, nums(all), false)
		for s := range v {
			all[s] = new(big.Rat).Neg(v[s])
		}
		g.checkProves(t, nums(all), g.areValues(all))
	}
}

// W2 (saddle): no player gains by leaving the best plan alone.
func TestSaddle(t *testing.T) {
	random := rand.New(rand.NewSource(4))
	for i := range 150 {
		g := randomGame(random, 1+i%6, 3)
		v := g.value(t)
		best, _ := wind.Best(g.nodes, g.discount)
		for kind, sign := range map[int]int{api.Most: 1, api.Least: -1} {
			g.eachPlan(best, kind, func(plan []int) {
				x, e := wind.Plays(g.nodes, g.discount, plan)
				if e != api.OK {
					t.Fatalf("Plays(%v, %v): %d", g, plan, e)
				}
				for s, number := range rats(x) {
					if number.Cmp(v[s])*sign > 0 {
						t.Errorf("Plays(%v, %v) = %v, and the values %v", g, plan, x, nums(v))
					}
				}
				if slices.Equal(plan, best) && !slices.Equal(x, nums(v)) {
					t.Errorf("Plays(%v, %v) of the best plan = %v, and the values %v", g, plan, x, nums(v))
				}
			})
		}
	}
}

// distance returns the greatest difference of two numbers of a node.
func distance(a, b []*big.Rat) *big.Rat {
	greatest := new(big.Rat)
	for s := range a {
		difference := minus(a[s], b[s])
		if difference.Abs(difference).Cmp(greatest) > 0 {
			greatest = difference
		}
	}
	return greatest
}

// W3 (contraction).
func TestContraction(t *testing.T) {
	for _, g := range someGames()[:120] {
		v := g.value(t)
		var last *big.Rat
		for k := range 9 {
			x, e := wind.Rounds(g.nodes, g.discount, k)
			if e != api.OK {
				t.Fatalf("Rounds(%v, %d): %d", g, k, e)
			}
			next := distance(v, rats(x))
			if k > 0 && next.Cmp(product(rat(g.discount), last)) > 0 {
				t.Errorf("Rounds(%v, %d) is off by %s, and by %s before", g, k, num(next), num(last))
			}
			last = next
		}
	}
}

// changed returns the game with other rewards.
func (g game) changed(reward func(*big.Rat) *big.Rat) game {
	nodes := slices.Clone(g.nodes)
	for s, n := range nodes {
		nodes[s].Reward = num(reward(rat(n.Reward)))
	}
	return game{nodes, g.discount}
}

// W4 (scale).
func TestScale(t *testing.T) {
	for _, g := range someGames() {
		if digits(g.after(g.rounds(0))) > 3 {
			continue // The rewards would get too long.
		}
		v := g.value(t)
		for _, c := range []*big.Rat{big.NewRat(0, 1), big.NewRat(1, 1), big.NewRat(7, 3), big.NewRat(1, 1000000007)} {
			w := g.changed(func(x *big.Rat) *big.Rat { return product(x, c) }).value(t)
			u := g.changed(func(x *big.Rat) *big.Rat { return plus(x, c) }).value(t)
			share := new(big.Rat).Quo(c, minus(big.NewRat(1, 1), rat(g.discount)))
			for s := range v {
				if w[s].Cmp(product(v[s], c)) != 0 {
					t.Errorf("Value(%v) = %v, and %v with rewards times %s", g, nums(v), nums(w), num(c))
				}
				if u[s].Cmp(plus(v[s], share)) != 0 {
					t.Errorf("Value(%v) = %v, and %v with %s more", g, nums(v), nums(u), num(c))
				}
			}
		}
	}
}

// W5 (sides).
func TestSides(t *testing.T) {
	for _, g := range someGames() {
		other := g.changed(func(x *big.Rat) *big.Rat { return new(big.Rat).Neg(x) })
		for s, n := range other.nodes {
			other.nodes[s].Kind = map[int]int{api.Most: api.Least, api.Least: api.Most, api.Chance: api.Chance}[n.Kind]
		}
		v, w := g.value(t), other.value(t)
		for s := range v {
			if plus(v[s], w[s]).Sign() != 0 {
				t.Errorf("Value(%v) = %v, and %v with the sides exchanged", g, nums(v), nums(w))
			}
		}
		first, _ := wind.Best(g.nodes, g.discount)
		second, _ := wind.Best(other.nodes, other.discount)
		if !slices.Equal(first, second) {
			t.Errorf("Best(%v) = %v, and %v with the sides exchanged", g, first, second)
		}
	}
}

// W6 (choice).
func TestChoice(t *testing.T) {
	for _, g := range someGames() {
		v := g.value(t)
		for s, n := range g.nodes {
			if n.Kind == api.Chance || len(n.Moves) == api.MaxMoves {
				continue
			}
			sign := map[int]int{api.Most: 1, api.Least: -1}[n.Kind]
			more := game{slices.Clone(g.nodes), g.discount}
			more.nodes[s].Moves = append(slices.Clone(n.Moves), api.Move{To: len(g.nodes) - 1 - s})
			for i, x := range more.value(t) {
				if x.Cmp(v[i])*sign < 0 {
					t.Errorf("%v: one more move at %d turns the value %s of %d into %s", g, s, num(v[i]), i, num(x))
				}
			}
		}
	}
}
