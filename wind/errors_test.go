package wind_test

import (
	"slices"
	"strings"
	"testing"

	"gamp/api"
	"gamp/wind"
)

const (
	lowest  = -1 << 63
	highest = 1<<63 - 1
)

// call has the arguments of all functions.
type call struct {
	game   game
	plan   []int
	values []api.Num
	rounds int
}

// errorOf calls a function, and fails if it returns more than an error.
func (c call) errorOf(t *testing.T, function string) api.Errno {
	t.Helper()
	var e api.Errno
	var zero bool
	var list []api.Num
	switch function {
	case "Value":
		list, e = wind.Value(c.game.nodes, c.game.discount)
		zero = len(list) == 0
	case "Best":
		var plan []int
		plan, e = wind.Best(c.game.nodes, c.game.discount)
		zero = len(plan) == 0
	case "Plays":
		list, e = wind.Plays(c.game.nodes, c.game.discount, c.plan)
		zero = len(list) == 0
	case "Proves":
		zero, e = wind.Proves(c.game.nodes, c.game.discount, c.values)
		zero = !zero
	case "Rounds":
		list, e = wind.Rounds(c.game.nodes, c.game.discount, c.rounds)
		zero = len(list) == 0
	}
	if e != api.OK && !zero {
		t.Errorf("%s(%v) returns more than the error %d", function, c, e)
	}
	return e
}

func (c call) check(t *testing.T, want api.Errno, functions ...string) {
	t.Helper()
	for _, function := range functions {
		if e := c.errorOf(t, function); e != want {
			t.Errorf("%s(%v): error %d, not %d", function, c, e, want)
		}
	}
}

func allFunctions() []string {
	return []string{"Value", "Best", "Plays", "Proves", "Rounds"}
}

// good is a call that no function refuses.
func good() call {
	g := gameOf("1/2", "M 0 1 2", "L 3 1 0", "C 0 1:1/3 2:1/3 0:1/3")
	return call{g, []int{1, 0, -1}, []api.Num{"1", "2", "3"}, 2}
}

func invalidNums() []api.Num {
	return []api.Num{"-", "/", "1/", "/2", "-/2", "+1", "01", "-01", "00", "000", "-0", "0/2", "-0/2", "0/1", "1/1", "3/1", "-3/1", "2/4", "-2/4", "6/3",
		"35/14", "1/0", "0/0", "1/00", "-1/0", "1/-2", "--1", "1//2", "1/2/3", " 1", "1 ", "1.5", "1e3", "0x1", "1_000", ":", "1:", "1/:", "a", "1/b", "1/02", "01/2", "1/2\n", "\x00",
		"1\x00", "\xff", "\u0663", "\u00bd", "1,5", "999999999999/3", "1000000000000/5", api.Num("1" + strings.Repeat("0", 4000)), api.Num("-1" + strings.Repeat("0", 4000)),
		api.Num("1/1" + strings.Repeat("0", 4000)), api.Num(strings.Repeat("0", 4001)), api.Num(strings.Repeat("7", 100000)),
		api.Num(strings.Repeat("6", 3999) + "/" + strings.Repeat("3", 4000)), api.Num(strings.Repeat("6", 40) + "/" + strings.Repeat("3", 41))}
}

func TestGood(t *testing.T) {
	good().check(t, api.OK, allFunctions()...)
}

// wrongs are changes for each of which a function returns ErrArg.
func wrongs() map[string][]func(*call) {
	return map[string][]func(*call){
		"game": {
			func(c *call) { c.game.nodes = nil },
			func(c *call) { c.game.nodes = append(c.game.nodes, slices.Repeat(c.game.nodes[:1], 8)...) },
			func(c *call) { c.game.nodes = append(c.game.nodes, slices.Repeat(c.game.nodes[:1], 1000)...) },
			func(c *call) { c.game.nodes[0].Kind = 0 },
			func(c *call) { c.game.nodes[0].Kind = 4 },
			func(c *call) { c.game.nodes[1].Kind = -1 },
			func(c *call) { c.game.nodes[1].Kind = highest },
			func(c *call) { c.game.nodes[2].Kind = lowest },
			func(c *call) { c.game.nodes[2].Kind = 0 },
			func(c *call) { c.game.nodes[2].Kind = api.Most },
			func(c *call) { c.game.nodes[2].Kind = api.Least },
			func(c *call) { c.game.nodes[0].Kind = api.Chance },
			func(c *call) { c.game.nodes[1].Kind = api.Chance },
			func(c *call) { c.game.nodes[0].Moves = nil },
			func(c *call) { c.game.nodes[1].Moves = []api.Move{} },
			func(c *call) { c.game.nodes[2].Moves = nil },
			func(c *call) { c.game.nodes[0].Moves = slices.Repeat(c.game.nodes[0].Moves[:1], 7) },
			func(c *call) { c.game.nodes[2].Moves = make([]api.Move, 1000) },
			func(c *call) { c.game.nodes[2] = gameOf("0", "C 0 0:1/7 0:1/7 0:1/7 0:1/7 0:1/7 0:1/7 0:1/7").nodes[0] },
			func(c *call) { c.game.nodes[0].Moves[0].To = -1 },
			func(c *call) { c.game.nodes[0].Moves[1].To = 3 },
			func(c *call) { c.game.nodes[1].Moves[1].To = highest },
			func(c *call) { c.game.nodes[2].Moves[2].To = lowest },
			func(c *call) { c.game.nodes[2].Moves[0].To = 3 },
			func(c *call) { c.game.nodes[0].Moves[0].Odds = "1" },
			func(c *call) { c.game.nodes[0].Moves[1].Odds = "1/2" },
			func(c *call) { c.game.nodes[1].Moves[1].Odds = "0" },
			func(c *call) { c.game.nodes[1].Moves[0].Odds = "-1000000000000" },
			func(c *call) { c.game.nodes[0].Reward = "1000000000000" },
			func(c *call) { c.game.nodes[1].Reward = "-1000000000000" },
			func(c *call) { c.game.nodes[2].Reward = "1/1000000000000" },
			func(c *call) { c.game.nodes[2].Reward = api.Num(strings.Repeat("9", 4000)) },
		},
		"odds": {
			func(c *call) { c.game.nodes[2].Moves[0].Odds = "" },
			func(c *call) { c.game.nodes[2].Moves[2].Odds = "" },
			func(c *call) { c.game.nodes[2].Moves[1].Odds = "1/2" },
			func(c *call) { c.game.nodes[2].Moves[1].Odds = "333333333333/999999999998" },
			func(c *call) { c.game.nodes[2].Moves = c.game.nodes[2].Moves[:2] },
			func(c *call) { c.game.nodes[2] = gameOf("0", "C 0 0:1 0:0").nodes[0] },
			func(c *call) { c.game.nodes[2] = gameOf("0", "C 0 0:1 0:").nodes[0] },
			func(c *call) { c.game.nodes[2] = gameOf("0", "C 0 0:4/3 0:-1/3").nodes[0] },
			func(c *call) { c.game.nodes[2] = gameOf("0", "C 0 0:2").nodes[0] },
			func(c *call) { c.game.nodes[2] = gameOf("0", "C 0 0:-1").nodes[0] },
			func(c *call) { c.game.nodes[2] = gameOf("0", "C 0 0:0").nodes[0] },
			func(c *call) {
				c.game.nodes[2] = gameOf("0", "C 0 0:1/1000000000000 0:999999999999/1000000000000").nodes[0]
			},
		},
		"discount": {
			func(c *call) { c.game.discount = "1" },
			func(c *call) { c.game.discount = "2" },
			func(c *call) { c.game.discount = "-1/2" },
			func(c *call) { c.game.discount = "-1" },
			func(c *call) { c.game.discount = "3/2" },
			func(c *call) { c.game.discount = "999999999999/999999999998" },
			func(c *call) { c.game.discount = "1/1000000000000" },
			func(c *call) { c.game.discount = "999999999999/1000000000000" },
			func(c *call) { c.game.discount = api.Num("1/" + strings.Repeat("9", 4000)) },
		},
		"Plays": {
			func(c *call) { c.plan = nil },
			func(c *call) { c.plan = c.plan[:2] },
			func(c *call) { c.plan = append(c.plan, -1) },
			func(c *call) { c.plan = append(c.plan, 0) },
			func(c *call) { c.plan[0] = -1 },
			func(c *call) { c.plan[0] = 2 },
			func(c *call) { c.plan[0] = lowest },
			func(c *call) { c.plan[0] = highest },
			func(c *call) { c.plan[1] = -1 },
			func(c *call) { c.plan[1] = 2 },
			func(c *call) { c.plan[1] = lowest },
			func(c *call) { c.plan[1] = highest },
			func(c *call) { c.plan[2] = 0 },
			func(c *call) { c.plan[2] = -2 },
			func(c *call) { c.plan[2] = highest },
		},
		"Proves": {
			func(c *call) { c.values = nil },
			func(c *call) { c.values = c.values[:2] },
			func(c *call) { c.values = append(c.values, "0") },
		},
		"Rounds": {
			func(c *call) { c.rounds = -1 },
			func(c *call) { c.rounds = 31 },
			func(c *call) { c.rounds = lowest },
			func(c *call) { c.rounds = highest },
		},
	}
}

// refusing returns the functions that refuse what is wrong.
func refusing(what string) []string {
	if slices.Contains(allFunctions(), what) {
		return []string{what}
	}
	return allFunctions()
}

func TestErrArg(t *testing.T) {
	for what, changes := range wrongs() {
		functions := refusing(what)
		for _, change := range changes {
			c := good()
			change(&c)
			c.check(t, api.ErrArg, functions...)
			for _, function := range allFunctions() {
				if !slices.Contains(functions, function) {
					c.check(t, api.OK, function)
				}
			}
		}
	}
}

// A Num that is not valid is refused, wherever it is, and before all that is wrong besides.
func TestErrForm(t *testing.T) {
	for _, num := range append(invalidNums(), "") {
		c := good()
		c.game.discount = num
		c.check(t, api.ErrForm, allFunctions()...)
		for i := range 3 {
			c = good()
			c.game.nodes[i].Reward = num
			c.check(t, api.ErrForm, allFunctions()...)
			c = good()
			c.values[i] = num
			c.check(t, api.ErrForm, "Proves")
		}
	}
	for _, num := range invalidNums() {
		for i := range 3 {
			for k := range 2 {
				c := good()
				c.game.nodes[i].Moves[k].Odds = num
				c.check(t, api.ErrForm, allFunctions()...)
			}
		}
	}
}

func TestErrFormBeforeErrArg(t *testing.T) {
	for what, changes := range wrongs() {
		functions := refusing(what)
		for _, change := range changes {
			c := good()
			change(&c)
			c.game.nodes = append(c.game.nodes, api.Node{Reward: "x"})
			c.check(t, api.ErrForm, functions...)
			c = good()
			change(&c)
			c.game.nodes = append(c.game.nodes, api.Node{Reward: "1", Moves: []api.Move{{To: -1, Odds: "2/4"}}})
			c.check(t, api.ErrForm, functions...)
			if what != "discount" {
				c = good()
				change(&c)
				c.game.discount = ""
				c.check(t, api.ErrForm, functions...)
			}
			c = good()
			change(&c)
			c.values = append(c.values, "-0")
			c.check(t, api.ErrForm, "Proves")
		}
	}
}

// Zero values of all arguments.
func TestNothing(t *testing.T) {
	call{}.check(t, api.ErrForm, allFunctions()...)
	call{game: game{nil, "0"}}.check(t, api.ErrArg, allFunctions()...)
	call{game: game{[]api.Node{{}}, "0"}}.check(t, api.ErrForm, allFunctions()...)
	call{game: game{[]api.Node{{Reward: "0"}}, "0"}}.check(t, api.ErrArg, allFunctions()...)
}
