package pledge

import (
	"slices"

	"gamp/api"
)

// send puts a message under way, unless there would be too many.
func (t *Trade) send(m message) {
	if len(t.flight) < api.MaxFlight {
		t.flight = append(t.flight, m)
	}
}

// sendBack answers a message.
func (t *Trade) sendBack(kind int, m message) {
	t.send(message{kind, m.to, m.from, m.order})
}

// sendAll sends messages about an order from its first shop to some of its shops.
func (t *Trade) sendAll(kind, order int, shops []int) {
	for _, s := range shops {
		t.send(message{kind, t.orders[order].first, s, order})
	}
}

// take takes a message away.
func (t *Trade) take(i int) message {
	m := t.flight[i]
	t.flight = slices.Delete(t.flight, i, i+1)
	return m
}

// shown returns a message as the others see it, in new memory.
func (t *Trade) shown(m message) api.Message {
	shown := api.Message{Kind: m.kind, From: m.from, To: m.to, Order: m.order}
	if m.kind == api.Prepare {
		shown.Changes = t.orders[m.order].part(m.to)
	}
	return shown
}

// part returns the changes of an order at one shop, as new memory, in the order in which they were submitted.
func (o order) part(shop int) []api.Change {
	var part []api.Change
	for _, c := range o.changes {
		if c.Shop == shop {
			part = append(part, c)
		}
	}
	return part
}

// shops returns the shops of an order, rising.
func (o order) shops() []int {
	var shops []int
	for _, c := range o.changes {
		shops = append(shops, c.Shop)
	}
	slices.Sort(shops)
	return slices.Compact(shops)
}

// silent returns the shops of an order, rising, whose answer of a kind has not been noted.
func (t *Trade) silent(order, kind int) []int {
	o := t.orders[order]
	return slices.DeleteFunc(o.shops(), func(s int) bool { return t.answers[message{kind, s, o.first, order}] })
}
