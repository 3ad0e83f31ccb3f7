package maker

import (
	"slices"

	"gamp/api"
	"gamp/pledge"
)

func (m *Maker) setShops(in input) (string, api.Errno) {
	shops, stock := in.numbers[0], in.numbers[1:]
	if shops < 1 || len(stock) == 0 || len(stock)%shops != 0 {
		return "", api.ErrArg
	}
	trade, e := pledge.New(slices.Collect(slices.Chunk(stock, len(stock)/shops)))
	if e == api.OK {
		m.trade = trade
	}
	return "", e
}

func (m *Maker) order(in input) (string, api.Errno) {
	var changes []api.Change
	for c := range slices.Chunk(in.numbers[1:], 3) {
		changes = append(changes, api.Change{Shop: c[0], Item: c[1], Add: c[2]})
	}
	order, e := m.trade.Submit(in.numbers[0], changes)
	return numbers("order", order), e
}

// event returns what a command does by which something happens to a message or to a shop.
func event(happen func(*pledge.Trade, int) api.Errno) action {
	return func(m *Maker, in input) (string, api.Errno) {
		return "", happen(m.trade, in.numbers[0])
	}
}

func (m *Maker) settle(in input) (string, api.Errno) {
	rests, e := m.trade.Settle(in.numbers[0])
	return yesOrNo(rests), e
}

func (m *Maker) flight(input) (string, api.Errno) {
	var messages [][]int
	for _, f := range m.trade.Flight() {
		messages = append(messages, []int{f.Kind, f.From, f.To, f.Order})
	}
	return rows("message", messages), api.OK
}

func (m *Maker) stock(in input) (string, api.Errno) {
	stock, e := m.trade.Stock(in.numbers[0])
	return numbers("stock", stock...), e
}

func (m *Maker) state(in input) (string, api.Errno) {
	shop, order := in.numbers[0], in.numbers[1]
	state, e := m.trade.State(shop, order)
	if e != api.OK {
		return "", e
	}
	decided, e := m.trade.Decision(order)
	return numbers("state", state) + numbers("decision", decided), e
}
