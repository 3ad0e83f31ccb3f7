package wind

import "gamp/api"

// followed returns the nodes of the game as they are if the players follow a plan, and whether it is a plan: a move that is chosen is certain.
func (g *game) followed(plan []int) ([]chance, bool) {
	if len(plan) != len(g.nodes) {
		return nil, false
	}
	fixed := make([]chance, len(plan))
	for i, move := range plan {
		valid := false
		switch n := g.nodes[i].(type) {
		case most:
			fixed[i], valid = sure(n, move)
		case least:
			fixed[i], valid = sure(n, move)
		case chance:
			fixed[i], valid = n, move == -1
		}
		if !valid {
			return nil, false
		}
	}
	return fixed, true
}

// best returns the plan of the first best moves.
func (g *game) best(values []integer) []int {
	plan := make([]int, len(g.nodes))
	for i, n := range g.nodes {
		plan[i] = n.best(values)
	}
	return plan
}

// values finds the values by improving a plan (Hoffman and Karp): whenever the second player has found the best answer, the first player takes better moves. Each answer but the last one is worth more than the one before it, so that the search ends.
func (g *game) values() numbers {
	plan := g.best(g.rewards)
	for {
		values := g.answered(plan)
		if !g.improve(plan, values.parts, api.Most) {
			return values
		}
	}
}

// answered changes a plan into one with the second player's best answer, and returns its values.
func (g *game) answered(plan []int) numbers {
	for {
		fixed, _ := g.followed(plan)
		values := g.solved(fixed)
		if !g.improve(plan, values.parts, api.Least) {
			return values
		}
	}
}

// improve puts the first best moves at the nodes of one kind into a plan, and reports whether they were other ones. If they are no better than those, the values stay, and with them the first best moves.
func (g *game) improve(plan []int, values []integer, kind int) bool {
	improved := false
	for i, n := range g.nodes {
		move := n.best(values)
		if n.kind() == kind && move != plan[i] {
			plan[i] = move
			improved = true
		}
	}
	return improved
}
