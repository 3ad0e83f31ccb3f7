package wind_test

import (
	"fmt"
	"slices"
	"testing"

	"gamp/api"
	"gamp/wind"
)

// everything returns the results of all functions, as text.
func (c call) everything() string {
	v, e := wind.Value(c.game.nodes, c.game.discount)
	text := fmt.Sprintln(v, e)
	plan, e := wind.Best(c.game.nodes, c.game.discount)
	text += fmt.Sprintln(plan, e)
	v, e = wind.Plays(c.game.nodes, c.game.discount, c.plan)
	text += fmt.Sprintln(v, e)
	ok, e := wind.Proves(c.game.nodes, c.game.discount, c.values)
	text += fmt.Sprintln(ok, e)
	v, e = wind.Rounds(c.game.nodes, c.game.discount, c.rounds)
	return text + fmt.Sprintln(v, e)
}

// roomy returns a copy with more memory behind it, which nothing may write to.
func roomy[Element any](list []Element) []Element {
	var none Element
	long := append(slices.Clone(list), none, none, none)
	return long[:len(list)]
}

// roomyCall returns a copy with more memory behind all slices.
func (c call) roomyCall() call {
	nodes := roomy(c.game.nodes)
	for s, n := range nodes {
		nodes[s].Moves = roomy(n.Moves)
	}
	return call{game{nodes, c.game.discount}, roomy(c.plan), roomy(c.values), c.rounds}
}

// memory returns all that a roomy call has, and what lies behind it, as text.
func (c call) memory() string {
	nodes := c.game.nodes
	text := fmt.Sprintln(nodes[:len(nodes)+3], c.plan[:len(c.plan)+3], c.values[:len(c.values)+3])
	for _, n := range nodes {
		text += fmt.Sprintln(n.Moves[:len(n.Moves)+3])
	}
	return text
}

// calls are good and bad ones.
func calls() []call {
	all := []call{good(), {}, {game: game{[]api.Node{{Reward: "2/2"}}, "0"}}}
	for _, g := range someGames()[:60] {
		v, _ := wind.Value(g.nodes, g.discount)
		all = append(all, call{g, g.firstPlan(), v, 3})
	}
	return all
}

// R5 and R6: arguments are not changed, and the same arguments give the same results, whatever lies behind them.
func TestArgumentsStay(t *testing.T) {
	for _, c := range calls() {
		other := c.roomyCall()
		before := other.memory()
		first := other.everything()
		if after := other.memory(); before != after {
			t.Errorf("%s has become\n%s", before, after)
		}
		for range 5 {
			if second := c.everything(); first != second {
				t.Errorf("%s\nand then\n%s", first, second)
			}
		}
	}
}

// R5: results are new memory.
func TestResultsAreNew(t *testing.T) {
	for _, c := range calls() {
		first := c.everything()
		v, _ := wind.Value(c.game.nodes, c.game.discount)
		plan, _ := wind.Best(c.game.nodes, c.game.discount)
		played, _ := wind.Plays(c.game.nodes, c.game.discount, c.plan)
		later, _ := wind.Rounds(c.game.nodes, c.game.discount, c.rounds)
		for _, list := range [][]api.Num{v[:cap(v)], played[:cap(played)], later[:cap(later)]} {
			for i := range list {
				list[i] = "77"
			}
		}
		for i := range plan[:cap(plan)] {
			plan[:cap(plan)][i] = 77
		}
		if second := c.everything(); first != second {
			t.Errorf("%s\nand then\n%s", first, second)
		}
	}
}

// R4: nil and empty are the same.
func TestNilIsEmpty(t *testing.T) {
	for _, n := range []game{{nil, "1/2"}, good().game} {
		none := call{game: n}
		empty := call{game{append([]api.Node{}, n.nodes...), n.discount}, []int{}, []api.Num{}, 0}
		if none.everything() != empty.everything() {
			t.Errorf("nil and empty slices differ for %v", n)
		}
	}
	noMoves := call{game: game{[]api.Node{{Kind: api.Most, Reward: "0"}}, "0"}}
	before := noMoves.everything()
	noMoves.game.nodes[0].Moves = []api.Move{}
	if after := noMoves.everything(); before != after {
		t.Errorf("%s\nand with an empty slice\n%s", before, after)
	}
}
