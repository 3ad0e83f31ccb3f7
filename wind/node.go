package wind

import "gamp/api"

// node is a node of a game.
type node interface {
	kind() int
	// best returns the first move to the best of the values, and -1 where nobody chooses.
	best(values []integer) int
	// worth returns the next worth times the scale.
	worth(values []integer) integer
	// scale returns a number above 0 that makes the next worth of integers an integer.
	scale() integer
}

// most is a node at which the first player chooses: where each move leads.
type most []int

func (m most) kind() int {
	return api.Most
}

func (m most) best(values []integer) int {
	return firstBest(m, values, 1)
}

func (m most) worth(values []integer) integer {
	return values[m[m.best(values)]]
}

func (m most) scale() integer {
	return whole(1)
}

// least is a node at which the second player chooses: where each move leads.
type least []int

func (l least) kind() int {
	return api.Least
}

func (l least) best(values []integer) int {
	return firstBest(l, values, -1)
}

func (l least) worth(values []integer) integer {
	return values[l[l.best(values)]]
}

func (l least) scale() integer {
	return whole(1)
}

// firstBest returns the first of the moves to the greatest of the values, or with the sign -1 to the least one.
func firstBest(moves []int, values []integer, sign int) int {
	best := 0
	for i, to := range moves {
		if values[to].compare(values[moves[best]]) == sign {
			best = i
		}
	}
	return best
}

// chance is a node at which nobody chooses: where each move leads, its share, and the sum of all shares.
type chance struct {
	moves  []int
	shares []integer
	sum    integer
}

func (c chance) kind() int {
	return api.Chance
}

func (c chance) best([]integer) int {
	return -1
}

func (c chance) worth(values []integer) integer {
	worth := whole(0)
	for i, to := range c.moves {
		worth = worth.plus(c.shares[i].times(values[to]))
	}
	return worth
}

func (c chance) scale() integer {
	return c.sum
}

// sure returns a node at which one of some moves is certain, and whether there is that move.
func sure(moves []int, move int) (chance, bool) {
	if move < 0 || move >= len(moves) {
		return chance{}, false
	}
	return chance{[]int{moves[move]}, []integer{whole(1)}, whole(1)}, true
}

// readNode returns a node of a game with so many nodes, and whether it is valid but for its reward.
func readNode(given api.Node, nodes int) (node, bool) {
	if len(given.Moves) < 1 || len(given.Moves) > api.MaxMoves {
		return nil, false
	}
	moves := make([]int, len(given.Moves))
	odds := false
	for i, move := range given.Moves {
		if move.To < 0 || move.To >= nodes {
			return nil, false
		}
		moves[i] = move.To
		odds = odds || move.Odds != ""
	}
	switch given.Kind {
	case api.Most:
		return most(moves), !odds
	case api.Least:
		return least(moves), !odds
	case api.Chance:
		return readChance(moves, given.Moves)
	default:
		return nil, false
	}
}

// readChance returns a chance node, and whether its odds are valid.
func readChance(moves []int, given []api.Move) (chance, bool) {
	odds := make([]ratio, len(given))
	sum := whole(1)
	for i, move := range given {
		r, valid := readShort(move.Odds)
		if !valid || r.upper.negative || r.upper.isZero() {
			return chance{}, false
		}
		odds[i] = r
		sum = lcm(sum, r.lower)
	}
	shares := make([]integer, len(odds))
	total := whole(0)
	for i, r := range odds {
		shares[i] = r.scaled(sum)
		total = total.plus(shares[i])
	}
	return chance{moves, shares, sum}, total.compare(sum) == 0
}
