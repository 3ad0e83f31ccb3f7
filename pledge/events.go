package pledge

import (
	"slices"

	"gamp/api"
)

// maxRounds is the greatest number of rounds in which a trade is brought to rest.
const maxRounds = 1000

// submit adds an order, of which no shop knows yet, and asks its shops to prepare.
func (t *Trade) submit(first int, changes []api.Change) int {
	n := len(t.orders)
	t.orders = append(t.orders, order{first, slices.Clone(changes), api.Preparing})
	for i := range t.shops {
		t.shops[i].states = append(t.shops[i].states, api.Unknown)
	}
	t.sendAll(api.Prepare, n, t.orders[n].shops())
	return n
}

// crash takes a shop down, which forgets what it has been answered.
func (t *Trade) crash(shop int) {
	t.shops[shop].up = false
	for m := range t.answers {
		if m.to == shop {
			delete(t.answers, m)
		}
	}
}

// restart takes a shop up again. It gives up what it had not decided, since it may have forgotten answers.
func (t *Trade) restart(shop int) {
	t.shops[shop].up = true
	for n, o := range t.orders {
		if o.first == shop && o.decision == api.Preparing {
			t.orders[n].decision = api.Aborted
		}
	}
}

// tick lets a shop send again what its own orders need, and ask about those that it is prepared for.
func (t *Trade) tick(shop int) {
	for n, o := range t.orders {
		if o.first == shop {
			t.remind(n)
		}
	}
	for n, state := range t.shops[shop].states {
		if state == api.Prepared {
			t.send(message{api.Ask, shop, t.orders[n].first, n})
		}
	}
}

// remind sends again what some shops of an order have not answered.
func (t *Trade) remind(order int) {
	kind, answer := verdict(t.orders[order].decision), api.Done
	if kind == api.Prepare {
		answer = api.Yes
	}
	t.sendAll(kind, order, t.silent(order, answer))
}

// settle goes on until the trade is at rest, or for a number of rounds, and reports whether it is at rest.
func (t *Trade) settle(rounds int) bool {
	for range rounds {
		if t.rests() {
			return true
		}
		t.round()
	}
	return t.rests()
}

// round is a tick of each shop that is up, and then each message of now is delivered.
func (t *Trade) round() {
	for s := range t.shops {
		if t.shops[s].up {
			t.tick(s)
		}
	}
	for range len(t.flight) {
		t.deliver(0)
	}
}

// rests reports whether all is decided and all shops know it. No shop of a decided order is prepared then, and none of the others ever is.
func (t *Trade) rests() bool {
	for n, o := range t.orders {
		if o.decision == api.Preparing {
			return false
		}
		for _, s := range o.shops() {
			if t.shops[s].states[n] != o.decision {
				return false
			}
		}
	}
	return true
}
