package pledge

import (
	"maps"
	"slices"

	"gamp/api"
)

// Trade is shops that do orders together.
type Trade struct {
	// self is the trade itself, so that one that was copied by hand, and would share its shops with the other one, is told apart from one that New or Clone returned.
	self   *Trade
	shops  []shop
	orders []order
	flight []message
	// answers are the messages Yes and Done that their receivers, the first shops of the orders, have noted.
	answers map[message]bool
}

// shop is what a shop remembers, but for its decisions, and whether it is up.
type shop struct {
	up     bool
	stock  []int
	states []int // of all orders, Unknown where it is none of the shops
}

// order is an order, with the decision of its first shop.
type order struct {
	first    int
	changes  []api.Change
	decision int
}

// message is a message without its changes: those of Prepare follow from the order and the receiver.
type message struct {
	kind, from, to, order int
}

// exists reports whether the methods can be used.
func (t *Trade) exists() bool {
	return t != nil && t.self == t
}

func (t *Trade) hasShop(shop int) bool {
	return shop >= 0 && shop < len(t.shops)
}

func (t *Trade) hasOrder(order int) bool {
	return order >= 0 && order < len(t.orders)
}

func (t *Trade) hasItem(item int) bool {
	return item >= 0 && item < len(t.shops[0].stock)
}

// checkMessage returns why there is no message i.
func (t *Trade) checkMessage(i int) api.Errno {
	switch {
	case !t.exists():
		return api.ErrState
	case i < 0 || i >= len(t.flight):
		return api.ErrArg
	}
	return api.OK
}

// checkUp returns why a shop is not up.
func (t *Trade) checkUp(shop int) api.Errno {
	switch {
	case !t.exists():
		return api.ErrState
	case !t.hasShop(shop):
		return api.ErrArg
	case !t.shops[shop].up:
		return api.ErrDown
	}
	return api.OK
}

// validStock reports whether a trade can begin with a stock.
func validStock(stock [][]int) bool {
	if len(stock) < 1 || len(stock) > api.MaxShops {
		return false
	}
	items := len(stock[0])
	if items < 1 || items > api.MaxItems {
		return false
	}
	for _, l := range stock {
		if len(l) != items || slices.ContainsFunc(l, outside) {
			return false
		}
	}
	return true
}

// outside reports whether there can be no such stock.
func outside(stock int) bool {
	return stock < 0 || stock > api.MaxStock
}

// allows reports whether changes are valid.
func (t *Trade) allows(changes []api.Change) bool {
	if len(changes) < 1 || len(changes) > api.MaxChanges {
		return false
	}
	for i, c := range changes {
		if !t.hasShop(c.Shop) || !t.hasItem(c.Item) || c.Add == 0 || c.Add < -api.MaxStock || c.Add > api.MaxStock || change(changes[:i], c.Shop, c.Item) {
			return false
		}
	}
	return true
}

// change reports whether one of the changes is that of an item of a shop.
func change(changes []api.Change, shop, item int) bool {
	return slices.ContainsFunc(changes, func(c api.Change) bool { return c.Shop == shop && c.Item == item })
}

// clone returns a copy that shares no memory with the trade.
func (t *Trade) clone() *Trade {
	u := &Trade{flight: slices.Clone(t.flight), answers: maps.Clone(t.answers)}
	u.self = u
	for _, s := range t.shops {
		u.shops = append(u.shops, shop{s.up, slices.Clone(s.stock), slices.Clone(s.states)})
	}
	for _, o := range t.orders {
		u.orders = append(u.orders, order{o.first, slices.Clone(o.changes), o.decision})
	}
	return u
}
