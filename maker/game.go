package maker

import (
	"gamp/api"
	"gamp/wind"
)

// nodeKind returns the kind of node that a word stands for, or 0.
func nodeKind(word string) int {
	switch word {
	case "most":
		return api.Most
	case "least":
		return api.Least
	case "chance":
		return api.Chance
	}
	return 0
}

func (m *Maker) addNode(in input) (string, api.Errno) {
	n := api.Node{Kind: nodeKind(in.texts[0]), Reward: api.Num(in.texts[1])}
	return "", add(&m.game, n, api.MaxNodes)
}

func (m *Maker) addMove(in input) (string, api.Errno) {
	s, move := in.numbers[0], api.Move{To: in.numbers[1]}
	if !isBetween(s, 0, len(m.game)-1) {
		return "", api.ErrArg
	}
	if len(in.texts) > 0 {
		move.Odds = api.Num(in.texts[0])
	}
	return "", add(&m.game[s].Moves, move, api.MaxMoves)
}

func (m *Maker) setDiscount(in input) (string, api.Errno) {
	m.discount = api.Num(in.texts[0])
	return "", api.OK
}

func (m *Maker) value(input) (string, api.Errno) {
	values, e := wind.Value(m.game, m.discount)
	if e != api.OK {
		return "", e
	}
	plan, e := wind.Best(m.game, m.discount)
	return texts("value", values...) + numbers("best", plan...), e
}
