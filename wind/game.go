package wind

import "gamp/api"

// game is a valid game. Its rewards are multiplied by a unit that makes them integers; so are its values then.
type game struct {
	nodes    []node
	rewards  []integer
	unit     integer
	discount ratio
	// scale is a multiple of the scales of all nodes.
	scale integer
}

// numbers are a number for each node: a part divided by the whole, which is above 0.
type numbers struct {
	parts []integer
	whole integer
}

// readGame returns a game. The other Nums are only looked at to see whether they are valid, which comes before all that may be wrong with the game.
func readGame(nodes []api.Node, discount api.Num, others []api.Num) (*game, api.Errno) {
	if !areFormed(nodes) || !areNums(discount) || !areNums(others...) {
		return nil, api.ErrForm
	}
	kept, short := readShort(discount)
	if !short || kept.upper.negative || kept.upper.compare(kept.lower) >= 0 || len(nodes) < 1 || len(nodes) > api.MaxNodes {
		return nil, api.ErrArg
	}
	g := &game{unit: whole(1), discount: kept, scale: whole(1)}
	if !g.readNodes(nodes) || !g.readRewards(nodes) {
		return nil, api.ErrArg
	}
	return g, api.OK
}

// areFormed reports whether all Nums of the nodes are valid; where there are no odds, there is no Num.
func areFormed(nodes []api.Node) bool {
	for _, n := range nodes {
		nums := []api.Num{n.Reward}
		for _, move := range n.Moves {
			if move.Odds != "" {
				nums = append(nums, move.Odds)
			}
		}
		if !areNums(nums...) {
			return false
		}
	}
	return true
}

func (g *game) readNodes(nodes []api.Node) bool {
	for _, given := range nodes {
		n, valid := readNode(given, len(nodes))
		if !valid {
			return false
		}
		g.nodes = append(g.nodes, n)
		g.scale = lcm(g.scale, n.scale())
	}
	return true
}

func (g *game) readRewards(nodes []api.Node) bool {
	rewards := make([]ratio, len(nodes))
	for i, n := range nodes {
		r, short := readShort(n.Reward)
		if !short {
			return false
		}
		rewards[i] = r
		g.unit = lcm(g.unit, r.lower)
	}
	for _, r := range rewards {
		g.rewards = append(g.rewards, r.scaled(g.unit))
	}
	return true
}

// growth returns how many times greater the whole becomes in a round.
func (g *game) growth() integer {
	return g.scale.times(g.discount.lower)
}

// round returns for each node the reward, and with the discount the next worth.
func (g *game) round(before numbers) numbers {
	after := numbers{make([]integer, len(g.nodes)), before.whole.times(g.growth())}
	for i, n := range g.nodes {
		lift := g.scale.over(n.scale()).times(g.discount.upper)
		after.parts[i] = g.rewards[i].times(after.whole).plus(n.worth(before.parts).times(lift))
	}
	return after
}

// isStill reports whether a round leaves all numbers as they are.
func (g *game) isStill(n numbers) bool {
	growth, after := g.growth(), g.round(n)
	for i, part := range n.parts {
		if part.times(growth).compare(after.parts[i]) != 0 {
			return false
		}
	}
	return true
}

// zeros returns the numbers before the first round.
func (g *game) zeros() numbers {
	return numbers{make([]integer, len(g.nodes)), whole(1)}
}

// numbersOf returns the numbers that Nums denote, in the game's unit.
func (g *game) numbersOf(texts []api.Num) numbers {
	ratios := make([]ratio, len(texts))
	common := whole(1)
	for i, text := range texts {
		ratios[i], _ = read(text)
		common = lcm(common, ratios[i].lower)
	}
	parts := make([]integer, len(texts))
	for i, r := range ratios {
		parts[i] = r.scaled(common).times(g.unit)
	}
	return numbers{parts, common}
}

// written returns the numbers as Nums, without the game's unit.
func (g *game) written(n numbers) ([]api.Num, api.Errno) {
	texts := make([]api.Num, len(n.parts))
	lower := n.whole.times(g.unit)
	for i, part := range n.parts {
		r := quotient(part, lower)
		if !r.fits(api.MaxDigits) {
			return nil, api.ErrRange
		}
		texts[i] = r.text()
	}
	return texts, api.OK
}
