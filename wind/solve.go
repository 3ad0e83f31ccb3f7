package wind

// solved returns the values of a game whose nodes are all left to chance.
func (g *game) solved(nodes []chance) numbers {
	rows := make([][]integer, len(nodes))
	for i, c := range nodes {
		rows[i] = g.equation(i, c)
	}
	determinant := eliminate(rows)
	parts := make([]integer, len(rows))
	for i, row := range rows {
		parts[i] = row[len(rows)]
	}
	return numbers{parts, determinant}
}

// equation returns the factors of the values in the equation of a node, and behind them what their sum is: with the next worth on the left side, and multiplied so that all of them are integers.
func (g *game) equation(i int, c chance) []integer {
	row := make([]integer, len(g.nodes)+1)
	scale := g.discount.lower.times(c.sum)
	row[i] = scale
	for k, to := range c.moves {
		row[to] = row[to].minus(g.discount.upper.times(c.shares[k]))
	}
	row[len(g.nodes)] = g.rewards[i].times(scale)
	return row
}

// eliminate turns the rows of equations into ones with a single unknown each, which has the determinant as its factor, and returns the determinant. All numbers on the way are determinants of parts, so that the divisions leave no rest (Bareiss). As the discount is below 1, the factor in the diagonal is greater than all others of its row together; therefore no determinant that is divided by is 0, and all of them are above 0.
func eliminate(rows [][]integer) integer {
	last := whole(1)
	for k := range rows {
		pivot := rows[k]
		for i, row := range rows {
			if i == k {
				continue
			}
			factor := row[k]
			for j := range row {
				row[j] = row[j].times(pivot[k]).minus(pivot[j].times(factor)).over(last)
			}
		}
		last = pivot[k]
	}
	return last
}
