package wind_test

import (
	"math/big"
	"math/rand"
	"slices"
	"strings"
	"testing"

	"gamp/api"
	"gamp/wind"
)

// primesBelow returns the greatest primes below a number, falling.
func primesBelow(limit int64, count int) []int64 {
	var primes []int64
	for n := limit - 1; len(primes) < count; n-- {
		if big.NewInt(n).ProbablyPrime(0) {
			primes = append(primes, n)
		}
	}
	return primes
}

// oddOdds returns six odds whose denominators are products of two primes each, so that the least common denominator of the odds is the product of six primes.
func oddOdds(random *rand.Rand, primes []int64) []api.Num {
	var points []*big.Rat
	for _, p := range primes {
		points = append(points, big.NewRat(1+random.Int63n(p-1), p))
	}
	slices.SortFunc(points, func(x, y *big.Rat) int { return x.Cmp(y) })
	odds := []api.Num{num(plus(big.NewRat(1, 1), minus(points[0], points[5])))}
	for i := range 5 {
		odds = append(odds, num(minus(points[i+1], points[i])))
	}
	return odds
}

// growingGame has ten chance nodes with odds that have few divisors in common, and a single reward.
func growingGame(discount, reward api.Num) game {
	random := rand.New(rand.NewSource(5))
	primes := primesBelow(1_000_000, 60)
	g := game{make([]api.Node, 10), discount}
	for s := range g.nodes {
		n := &g.nodes[s]
		n.Kind, n.Reward = api.Chance, "0"
		for i, odds := range oddOdds(random, primes[6*s:6*s+6]) {
			n.Moves = append(n.Moves, api.Move{To: (s + i*i) % 10, Odds: odds})
		}
	}
	g.nodes[0].Reward = reward
	return g
}

// power returns 10^zeros.
func power(zeros int) api.Num {
	return api.Num("1" + strings.Repeat("0", zeros))
}

// checkLong is for games that are too large to try all plans.
func (g game) checkLong(t *testing.T) {
	t.Helper()
	v, plan := g.checkBest(t)
	if x, e := wind.Plays(g.nodes, g.discount, plan); e != api.OK || !slices.Equal(x, nums(v)) {
		t.Errorf("Plays(%v, %v) = %v, %d, not the values", g, plan, x, e)
	}
	plan = g.firstPlan()
	if x, e := wind.Plays(g.nodes, g.discount, plan); e != api.OK || !g.with(plan).areValues(rats(x)) {
		t.Errorf("Plays(%v, %v) = %v, %d", g, plan, x, e)
	}
	g.checkProves(t, nums(v), true)
	v[9] = plus(v[9], rat("1/"+power(3000)))
	g.checkProves(t, nums(v), false)
	if x, e := wind.Rounds(g.nodes, g.discount, 5); e != api.OK || !slices.Equal(x, nums(g.rounds(5))) {
		t.Errorf("Rounds(%v, 5) = %v, %d", g, x, e)
	}
}

// The largest games are exact, too.
func TestLargestGames(t *testing.T) {
	random := rand.New(rand.NewSource(6))
	for range 6 {
		longGame(random, api.Chance).checkLong(t)
		longGame(random, api.Most, api.Least).checkLong(t)
		longGame(random, api.Most, api.Least, api.Chance).checkLong(t)
		longGame(random, api.Least, api.Chance).checkLong(t)
	}
	growingGame("999999999998/999999999999", "999999999999").checkLong(t)
}

// Many plans that are as good as each other do not keep the players from finding the values.
func TestManyGamesOfTenNodes(t *testing.T) {
	random := rand.New(rand.NewSource(7))
	for range 1500 {
		g := randomGame(random, 10, 6)
		if v := g.value(t); !g.areValues(v) {
			t.Errorf("Value(%v) = %v", g, nums(v))
		}
	}
}

func TestLimitsOfGames(t *testing.T) {
	for _, c := range []struct {
		g    game
		want api.Num
	}{
		{gameOf("0", "M 999999999999 0"), "999999999999"},
		{gameOf("0", "L -999999999998/999999999999 0"), "-999999999998/999999999999"},
		{gameOf("999999999998/999999999999", "M 1/999999999999 0"), "1"},
		{gameOf("1/999999999999", "C 1 0:1"), "999999999999/999999999998"},
		{gameOf("1/2", "C 1 0:1/999999999999 0:999999999998/999999999999"), "2"},
		{gameOf("1/2", "C 1 0:1/2 0:1/10 0:1/10 0:1/10 0:1/10 0:1/10"), "2"},
		{gameOf("1/2", "M 1 0 0 0 0 0 0"), "2"},
	} {
		if v, e := wind.Value(c.g.nodes, c.g.discount); e != api.OK || !slices.Equal(v, []api.Num{c.want}) {
			t.Errorf("Value(%v) = %v, %d, not %s", c.g, v, e, c.want)
		}
	}
	ring := game{nil, "1/2"}
	for s := range 10 {
		ring.nodes = append(ring.nodes, api.Node{Kind: api.Least, Reward: api.Num(rune('0' + s)), Moves: slices.Repeat([]api.Move{{To: (s + 1) % 10}}, 6)})
	}
	ring.checkGame(t)
	if v, e := wind.Rounds(ring.nodes, ring.discount, 30); e != api.OK || !slices.Equal(v, nums(ring.rounds(30))) {
		t.Errorf("Rounds(%v, 30) = %v, %d", ring, v, e)
	}
}

// The longest numbers have 4000 digits, and neither a numerator nor a denominator may have more.
func TestErrRangeOfRounds(t *testing.T) {
	g := growingGame("1/499999993", "1")
	first := g.rounds(19)
	for _, rewards := range [][]api.Num{{"1/1000", "1/10000", "1/100000"}, {"100", "1000", "10000"}} {
		var lengths []int
		for _, reward := range rewards {
			g.nodes[0].Reward = reward
			want := make([]*big.Rat, len(first))
			for s, x := range first {
				want[s] = product(x, rat(reward))
			}
			lengths = append(lengths, digits(want))
			e, texts := api.OK, nums(want)
			if digits(want) > api.MaxDigits {
				e, texts = api.ErrRange, nil
			}
			if v, f := wind.Rounds(g.nodes, g.discount, 19); f != e || !slices.Equal(v, texts) {
				t.Errorf("Rounds with the reward %s: %d, not %d, or other numbers", reward, f, e)
			}
		}
		if !slices.Equal(lengths, []int{api.MaxDigits - 1, api.MaxDigits, api.MaxDigits + 1}) {
			t.Errorf("the results have %v digits", lengths)
		}
	}
	for count := 20; count <= api.MaxRounds; count += 5 {
		if v, e := wind.Rounds(g.nodes, g.discount, count); e != api.ErrRange || len(v) != 0 {
			t.Errorf("Rounds(%d) = %v, %d", count, v, e)
		}
	}
	// A wrong argument comes first.
	if v, e := wind.Rounds(g.nodes, g.discount, 31); e != api.ErrArg || len(v) != 0 {
		t.Errorf("Rounds(31) = %v, %d", v, e)
	}
}

// Games with short Nums have results after 10 rounds.
func TestRoundsOfShortNums(t *testing.T) {
	random := rand.New(rand.NewSource(8))
	for range 4 {
		g := game{make([]api.Node, 10), num(big.NewRat(996-random.Int63n(100), 997))}
		for s := range g.nodes {
			n := &g.nodes[s]
			n.Kind, n.Reward = api.Chance, num(big.NewRat(random.Int63n(1999)-999, 990+int64(s)))
			for _, odds := range split(random, 6, 999-int64(s)) {
				n.Moves = append(n.Moves, api.Move{To: random.Intn(10), Odds: odds})
			}
		}
		if v, e := wind.Rounds(g.nodes, g.discount, 10); e != api.OK || !slices.Equal(v, nums(g.rounds(10))) {
			t.Errorf("Rounds(%v, 10) = %v, %d", g, v, e)
		}
	}
}

// Numbers that are to be proved may be as long as any valid Num.
func TestProvesLongNumbers(t *testing.T) {
	g := gameOf("1/2", "M 1 0")
	for _, text := range []api.Num{power(3999), "-" + power(3999), "1/" + power(3999), power(3999) + "/" + api.Num(strings.Repeat("9", 4000))} {
		g.checkProves(t, []api.Num{text}, false)
	}
	random := rand.New(rand.NewSource(9))
	limit := rat(power(3999)).Num()
	long := longGame(random, api.Most, api.Least, api.Chance)
	values := make([]*big.Rat, len(long.nodes))
	for s := range values {
		den := new(big.Int).Rand(random, limit)
		values[s] = new(big.Rat).SetFrac(new(big.Int).Rand(random, limit), den.Add(den, limit))
	}
	long.checkProves(t, nums(values), false)
}
