package wind_test

import (
	"math/big"
	"math/rand"
	"slices"
	"strings"

	"gamp/api"
)

// game is a game with its discount.
type game struct {
	nodes    []api.Node
	discount api.Num
}

func rat(text api.Num) *big.Rat {
	value, ok := new(big.Rat).SetString(string(text))
	if !ok {
		panic("no number: " + text)
	}
	return value
}

func num(value *big.Rat) api.Num {
	return api.Num(value.RatString())
}

func rats(texts []api.Num) []*big.Rat {
	values := make([]*big.Rat, len(texts))
	for i, text := range texts {
		values[i] = rat(text)
	}
	return values
}

func nums(values []*big.Rat) []api.Num {
	texts := make([]api.Num, len(values))
	for i, value := range values {
		texts[i] = num(value)
	}
	return texts
}

func plus(a, b *big.Rat) *big.Rat {
	return new(big.Rat).Add(a, b)
}

func minus(a, b *big.Rat) *big.Rat {
	return new(big.Rat).Sub(a, b)
}

func product(a, b *big.Rat) *big.Rat {
	return new(big.Rat).Mul(a, b)
}

// nextWorth is the definition of the next worth.
func (g game) nextWorth(s int, v []*big.Rat) *big.Rat {
	moves := g.nodes[s].Moves
	worth := v[moves[0].To]
	if g.nodes[s].Kind == api.Chance {
		worth = new(big.Rat)
	}
	for _, m := range moves {
		switch g.nodes[s].Kind {
		case api.Most:
			if v[m.To].Cmp(worth) > 0 {
				worth = v[m.To]
			}
		case api.Least:
			if v[m.To].Cmp(worth) < 0 {
				worth = v[m.To]
			}
		case api.Chance:
			worth = plus(worth, product(rat(m.Odds), v[m.To]))
		}
	}
	return worth
}

// after returns Reward + d·(the next worth) for each node.
func (g game) after(v []*big.Rat) []*big.Rat {
	all := make([]*big.Rat, len(g.nodes))
	for s, n := range g.nodes {
		all[s] = plus(rat(n.Reward), product(rat(g.discount), g.nextWorth(s, v)))
	}
	return all
}

func same(a, b []*big.Rat) bool {
	return slices.EqualFunc(a, b, func(x, y *big.Rat) bool { return x.Cmp(y) == 0 })
}

// areValues is the definition of the values.
func (g game) areValues(v []*big.Rat) bool {
	return same(v, g.after(v))
}

// bestPlan is the definition of the best plan for the values v.
func (g game) bestPlan(v []*big.Rat) []int {
	plan := make([]int, len(g.nodes))
	for s, n := range g.nodes {
		plan[s] = -1
		if n.Kind != api.Chance {
			worth := g.nextWorth(s, v)
			plan[s] = slices.IndexFunc(n.Moves, func(m api.Move) bool { return v[m.To].Cmp(worth) == 0 })
		}
	}
	return plan
}

// with returns the game with only the moves of a plan; it has only one plan then.
func (g game) with(plan []int) game {
	nodes := slices.Clone(g.nodes)
	for s, number := range plan {
		if number >= 0 {
			nodes[s].Moves = []api.Move{nodes[s].Moves[number]}
		}
	}
	return game{nodes, g.discount}
}

// played solves the equations of a plan by Gauss and Jordan.
func (g game) played(plan []int) []*big.Rat {
	n := len(g.nodes)
	rows := make([][]*big.Rat, n)
	for s, node := range g.with(plan).nodes {
		rows[s] = make([]*big.Rat, n+1)
		for i := range rows[s] {
			rows[s][i] = new(big.Rat)
		}
		rows[s][s].SetInt64(1)
		for _, m := range node.Moves {
			odds := big.NewRat(1, 1)
			if node.Kind == api.Chance {
				odds = rat(m.Odds)
			}
			rows[s][m.To] = minus(rows[s][m.To], product(rat(g.discount), odds))
		}
		rows[s][n] = rat(node.Reward)
	}
	for k := range n {
		pivot := k
		for rows[pivot][k].Sign() == 0 {
			pivot++
		}
		rows[k], rows[pivot] = rows[pivot], rows[k]
		for i := range n {
			if i != k {
				factor := new(big.Rat).Quo(rows[i][k], rows[k][k])
				for j := range rows[i] {
					rows[i][j] = minus(rows[i][j], product(factor, rows[k][j]))
				}
			}
		}
	}
	v := make([]*big.Rat, n)
	for s := range v {
		v[s] = new(big.Rat).Quo(rows[s][n], rows[s][s])
	}
	return v
}

// eachPlan yields all plans that differ from a plan only at nodes of one kind.
func (g game) eachPlan(from []int, kind int, yield func([]int)) {
	plan := slices.Clone(from)
	var rest func(int)
	rest = func(s int) {
		if s == len(plan) {
			yield(slices.Clone(plan))
			return
		}
		if g.nodes[s].Kind != kind {
			rest(s + 1)
			return
		}
		for number := range g.nodes[s].Moves {
			plan[s] = number
			rest(s + 1)
		}
	}
	rest(0)
}

// firstPlan has the first move everywhere.
func (g game) firstPlan() []int {
	plan := make([]int, len(g.nodes))
	for s, n := range g.nodes {
		if n.Kind == api.Chance {
			plan[s] = -1
		}
	}
	return plan
}

// saddle returns, for each node, the greatest number that a plan of the first player secures against all plans of the second one.
func (g game) saddle() []*big.Rat {
	secured := make([]*big.Rat, len(g.nodes))
	g.eachPlan(g.firstPlan(), api.Most, func(mine []int) {
		lowest := make([]*big.Rat, len(g.nodes))
		g.eachPlan(mine, api.Least, func(both []int) {
			for s, x := range g.played(both) {
				if lowest[s] == nil || x.Cmp(lowest[s]) < 0 {
					lowest[s] = x
				}
			}
		})
		for s, x := range lowest {
			if secured[s] == nil || x.Cmp(secured[s]) > 0 {
				secured[s] = x
			}
		}
	})
	return secured
}

// rounds is the definition of Rounds.
func (g game) rounds(count int) []*big.Rat {
	v := make([]*big.Rat, len(g.nodes))
	for s := range v {
		v[s] = new(big.Rat)
	}
	for range count {
		v = g.after(v)
	}
	return v
}

// digits returns how many digits the longest numerator or denominator has.
func digits(values []*big.Rat) int {
	most := 0
	for _, x := range values {
		most = max(most, len(new(big.Int).Abs(x.Num()).String()), len(x.Denom().String()))
	}
	return most
}

// gameOf reads a game: for each node its kind (M, L or C), its reward, and its moves with their odds behind a colon.
func gameOf(discount api.Num, texts ...string) game {
	var nodes []api.Node
	for _, text := range texts {
		words := strings.Fields(text)
		n := api.Node{Kind: strings.Index("MLC", words[0]) + api.Most, Reward: api.Num(words[1])}
		for _, word := range words[2:] {
			to, odds, _ := strings.Cut(word, ":")
			n.Moves = append(n.Moves, api.Move{To: strings.Index("0123456789", to), Odds: api.Num(odds)})
		}
		nodes = append(nodes, n)
	}
	return game{nodes, discount}
}

// split returns so many odds, each of them above 0, whose denominators divide the given number.
func split(random *rand.Rand, count int, denominator int64) []api.Num {
	odds := make([]api.Num, count)
	rest := denominator
	for i := range odds {
		part := 1 + random.Int63n(rest-int64(count-1-i))
		if i == count-1 {
			part = rest
		}
		odds[i] = num(big.NewRat(part, denominator))
		rest -= part
	}
	return odds
}

// randomGame has short numbers, so that many values are equal.
func randomGame(random *rand.Rand, count, moves int) game {
	discounts := []api.Num{"0", "1/2", "1/3", "2/3", "9/10", "99/100", "1/999999999999", "999999999998/999999999999"}
	g := game{make([]api.Node, count), discounts[random.Intn(len(discounts))]}
	for s := range g.nodes {
		n := &g.nodes[s]
		n.Kind = api.Most + random.Intn(3)
		n.Reward = num(big.NewRat(random.Int63n(7)-3, 1+random.Int63n(2)))
		n.Moves = make([]api.Move, 1+random.Intn(moves))
		odds := split(random, len(n.Moves), 6+random.Int63n(4))
		for i := range n.Moves {
			n.Moves[i].To = random.Intn(count)
			if n.Kind == api.Chance {
				n.Moves[i].Odds = odds[i]
			}
		}
	}
	return g
}

// longGame has 10 nodes, 6 moves at each of them, and Nums of 12 digits.
func longGame(random *rand.Rand, kinds ...int) game {
	long := func() int64 { return 100_000_000_000 + random.Int63n(900_000_000_000) }
	small := long()
	g := game{make([]api.Node, 10), num(big.NewRat(small-1-random.Int63n(1000), small))}
	for s := range g.nodes {
		n := &g.nodes[s]
		n.Kind = kinds[random.Intn(len(kinds))]
		n.Reward = num(big.NewRat(long()-550_000_000_000, long()))
		n.Moves = make([]api.Move, 6)
		odds := split(random, 6, long())
		for i := range n.Moves {
			n.Moves[i].To = random.Intn(10)
			if n.Kind == api.Chance {
				n.Moves[i].Odds = odds[i]
			}
		}
	}
	return g
}

// someGames are games of all sizes, among them those of the chapter's examples.
func someGames() []game {
	games := []game{
		gameOf("1/2", "M 1 0"),
		gameOf("1/2", "M 0 1 2", "L 3 1", "C 0 1:1/2 2:1/2"),
		gameOf("0", "M 1/2 1 0", "L 1/3 0 1 0"),
		gameOf("1/2", "L 5 0", "M -5 1 1 1", "C 0 0:1"),
		gameOf("2/3", "M 0 0 1", "M 0 1 0"),
		gameOf("999999999998/999999999999", "M 999999999999 0 1", "L -999999999999 0 1"),
	}
	random := rand.New(rand.NewSource(1))
	for i := range 400 {
		games = append(games, randomGame(random, 1+i%10, 1+random.Intn(6)))
	}
	return games
}

// eachSmallGame yields all games of two nodes with rewards -1, 0 and 1 and at most two moves, which have equal odds.
func eachSmallGame(discount api.Num, yield func(game)) {
	var nodes []api.Node
	for kind := api.Most; kind <= api.Chance; kind++ {
		for _, reward := range []api.Num{"-1", "0", "1"} {
			for _, moves := range [][]int{{0}, {1}, {0, 0}, {0, 1}, {1, 0}, {1, 1}} {
				n := api.Node{Kind: kind, Reward: reward}
				for _, to := range moves {
					m := api.Move{To: to}
					if kind == api.Chance {
						m.Odds = num(big.NewRat(1, int64(len(moves))))
					}
					n.Moves = append(n.Moves, m)
				}
				nodes = append(nodes, n)
			}
		}
	}
	for _, first := range nodes {
		for _, second := range nodes {
			yield(game{[]api.Node{first, second}, discount})
		}
	}
}
