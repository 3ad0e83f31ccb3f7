package wind_test

import (
	"math/big"
	"math/rand"
	"slices"
	"testing"

	"gamp/api"
	"gamp/wind"
)

// value returns the values of a game, and fails if there are none.
func (g game) value(t *testing.T) []*big.Rat {
	t.Helper()
	v, e := wind.Value(g.nodes, g.discount)
	if e != api.OK || len(v) != len(g.nodes) {
		t.Fatalf("Value(%v) = %v, %d", g, v, e)
	}
	return rats(v)
}

func (g game) checkProves(t *testing.T, values []api.Num, want bool) {
	t.Helper()
	if ok, e := wind.Proves(g.nodes, g.discount, values); e != api.OK || ok != want {
		t.Errorf("Proves(%v, %v) = %t, %d, not %t", g, values, ok, e, want)
	}
}

func TestExamples(t *testing.T) {
	for _, c := range []struct {
		g      game
		values []api.Num
		best   []int
	}{
		{gameOf("1/2", "M 1 0"), []api.Num{"2"}, []int{0}},
		{gameOf("1/2", "M 0 1 2", "L 3 1", "C 0 1:1/2 2:1/2"), []api.Num{"3", "6", "2"}, []int{0, 0, -1}},
		{gameOf("0", "L 1/2 1 0", "M -1/3 1 0 0"), []api.Num{"1/2", "-1/3"}, []int{0, 1}},
		{gameOf("1/2", "M 0 1 2 2", "L 1 1 1", "C 2 0:1"), []api.Num{"4/3", "2", "8/3"}, []int{1, 0, -1}},
		{gameOf("9/10", "C 0 0:1/3 0:2/3"), []api.Num{"0"}, []int{-1}},
		{gameOf("9/10", "L -1 0", "M 0 0 0"), []api.Num{"-10", "-9"}, []int{0, 0}},
		{gameOf("999999999998/999999999999", "M -999999999999 0"), []api.Num{"-999999999998000000000001"}, []int{0}},
	} {
		v, e := wind.Value(c.g.nodes, c.g.discount)
		if e != api.OK || !slices.Equal(v, c.values) {
			t.Errorf("Value(%v) = %v, %d, not %v", c.g, v, e, c.values)
		}
		plan, e := wind.Best(c.g.nodes, c.g.discount)
		if e != api.OK || !slices.Equal(plan, c.best) {
			t.Errorf("Best(%v) = %v, %d, not %v", c.g, plan, e, c.best)
		}
		v, e = wind.Plays(c.g.nodes, c.g.discount, c.best)
		if e != api.OK || !slices.Equal(v, c.values) {
			t.Errorf("Plays(%v, %v) = %v, %d, not %v", c.g, c.best, v, e, c.values)
		}
		c.g.checkProves(t, c.values, true)
	}
	one := gameOf("1/2", "M 1 0")
	for count, want := range []api.Num{"0", "1", "3/2", "7/4"} {
		if v, e := wind.Rounds(one.nodes, one.discount, count); e != api.OK || !slices.Equal(v, []api.Num{want}) {
			t.Errorf("Rounds(%d) = %v, %d", count, v, e)
		}
	}
}

// checkBest holds Value and Best against the definitions, and returns their results.
func (g game) checkBest(t *testing.T) ([]*big.Rat, []int) {
	t.Helper()
	v := g.value(t)
	if !g.areValues(v) {
		t.Errorf("Value(%v) = %v", g, nums(v))
	}
	plan, e := wind.Best(g.nodes, g.discount)
	if e != api.OK || !slices.Equal(plan, g.bestPlan(v)) {
		t.Errorf("Best(%v) = %v, %d, not %v", g, plan, e, g.bestPlan(v))
	}
	return v, plan
}

// checkGame holds all functions against the definitions.
func (g game) checkGame(t *testing.T) {
	t.Helper()
	v, plan := g.checkBest(t)
	for _, p := range [][]int{plan, g.firstPlan()} {
		played := g.played(p)
		if x, e := wind.Plays(g.nodes, g.discount, p); e != api.OK || !slices.Equal(x, nums(played)) {
			t.Errorf("Plays(%v, %v) = %v, %d, not %v", g, p, x, e, nums(played))
		}
		g.checkProves(t, nums(played), same(played, v))
	}
	for _, count := range []int{0, 1, 2, 3, 7} {
		want := nums(g.rounds(count))
		if x, e := wind.Rounds(g.nodes, g.discount, count); e != api.OK || !slices.Equal(x, want) {
			t.Errorf("Rounds(%v, %d) = %v, %d, not %v", g, count, x, e, want)
		}
		g.checkProves(t, want, same(rats(want), v))
	}
}

func TestAllSmallGames(t *testing.T) {
	for _, discount := range []api.Num{"0", "1/2"} {
		eachSmallGame(discount, func(g game) { g.checkGame(t) })
	}
}

func TestSomeGames(t *testing.T) {
	for _, g := range someGames() {
		g.checkGame(t)
	}
}

// The values are also what the players secure, whatever the other one does.
func TestValueIsASaddle(t *testing.T) {
	random := rand.New(rand.NewSource(2))
	for i := range 300 {
		g := randomGame(random, 1+i%4, 3)
		if v, want := g.value(t), g.saddle(); !same(v, want) {
			t.Errorf("Value(%v) = %v, not %v", g, nums(v), nums(want))
		}
	}
}

// All plans of all sizes have values.
func TestPlays(t *testing.T) {
	random := rand.New(rand.NewSource(3))
	for i := range 60 {
		g := randomGame(random, 1+i%5, 3)
		g.eachPlan(g.firstPlan(), api.Most, func(mine []int) {
			g.eachPlan(mine, api.Least, func(plan []int) {
				want := nums(g.played(plan))
				if v, e := wind.Plays(g.nodes, g.discount, plan); e != api.OK || !slices.Equal(v, want) {
					t.Errorf("Plays(%v, %v) = %v, %d, not %v", g, plan, v, e, want)
				}
			})
		})
	}
}

// Where the players have to change their minds many times: the way to the reward gets longer and longer, and what is near at hand is worth more at first.
func TestLongWays(t *testing.T) {
	for _, kind := range []string{"M", "L"} {
		sign := map[string]string{"M": "", "L": "-"}[kind]
		g := gameOf("99/100", kind+" 0 0 1 9", kind+" 0 1 2 8 0", kind+" 0 2 3 1", kind+" 0 3 4 7 0", kind+" 0 4 5 3", kind+" 0 5 6 0",
			kind+" 0 6 9 5", kind+" "+sign+"2 0", kind+" "+sign+"1 0", kind+" "+sign+"1000 0")
		g.checkGame(t)
		g = gameOf("9/10", kind+" 0 9 1", kind+" "+sign+"1 2 0", kind+" "+sign+"2 0 3", "C 0 4:1/2 0:1/2", kind+" 0 5 9", "C 1 6:1/3 2:2/3",
			kind+" "+sign+"1/7 7 8", "L 0 8 6", "M 0 9 7", "C 0 0:1/10 1:1/10 2:1/5 3:1/10 4:3/10 9:1/5")
		g.checkGame(t)
	}
}
