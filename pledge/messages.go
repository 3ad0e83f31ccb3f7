package pledge

import "gamp/api"

// tasks returns what a shop does with a message, by the kind of the message.
func tasks() [api.Ask + 1]func(*Trade, message) {
	return [...]func(*Trade, message){
		api.Prepare: (*Trade).prepare,
		api.Yes:     (*Trade).yes,
		api.No:      (*Trade).no,
		api.Commit:  (*Trade).commit,
		api.Abort:   (*Trade).abort,
		api.Done:    (*Trade).note,
		api.Ask:     (*Trade).tell,
	}
}

// deliver takes a message away and delivers it, if the receiver is up.
func (t *Trade) deliver(i int) {
	m := t.take(i)
	if t.shops[m.to].up {
		tasks()[m.kind](t, m)
	}
}

// prepare answers whether a shop does its part of an order. A shop that does not know the order yet decides that now.
func (t *Trade) prepare(m message) {
	state := &t.shops[m.to].states[m.order]
	if *state == api.Unknown {
		*state = api.Aborted
		if t.fits(m.to, m.order) {
			*state = api.Prepared
		}
	}
	if *state == api.Aborted {
		t.sendBack(api.No, m)
	} else {
		t.sendBack(api.Yes, m)
	}
}

// fits reports whether a shop can do its part of an order.
func (t *Trade) fits(shop, order int) bool {
	for _, c := range t.orders[order].part(shop) {
		if t.held(shop, c.Item) || outside(t.shops[shop].stock[c.Item]+c.Add) {
			return false
		}
	}
	return true
}

// held reports whether an order that is prepared at a shop changes an item.
func (t *Trade) held(shop, item int) bool {
	for n, state := range t.shops[shop].states {
		if state == api.Prepared && change(t.orders[n].changes, shop, item) {
			return true
		}
	}
	return false
}

// yes commits an order when the last one of its shops has answered yes.
func (t *Trade) yes(m message) {
	if t.orders[m.order].decision != api.Preparing {
		t.tell(m)
		return
	}
	t.note(m)
	if len(t.silent(m.order, api.Yes)) == 0 {
		t.decide(m.order, api.Committed)
	}
}

func (t *Trade) no(m message) {
	if t.orders[m.order].decision == api.Preparing {
		t.decide(m.order, api.Aborted)
	}
}

func (t *Trade) commit(m message) {
	s := &t.shops[m.to]
	if s.states[m.order] == api.Prepared {
		for _, c := range t.orders[m.order].part(m.to) {
			s.stock[c.Item] += c.Add
		}
		s.states[m.order] = api.Committed
	}
	t.sendBack(api.Done, m)
}

// abort is remembered also by a shop that does not know the order yet, so that it refuses a Prepare that comes late.
func (t *Trade) abort(m message) {
	state := &t.shops[m.to].states[m.order]
	if *state == api.Unknown || *state == api.Prepared {
		*state = api.Aborted
	}
	t.sendBack(api.Done, m)
}

// note notes an answer or an acknowledgement.
func (t *Trade) note(m message) {
	t.answers[m] = true
}

// tell sends the decision back, if there is one.
func (t *Trade) tell(m message) {
	if kind := verdict(t.orders[m.order].decision); kind != api.Prepare {
		t.sendBack(kind, m)
	}
}

// decide makes a decision and sends it to all shops of the order.
func (t *Trade) decide(order, decision int) {
	t.orders[order].decision = decision
	t.sendAll(verdict(decision), order, t.orders[order].shops())
}

// verdict returns the kind of message by which a first shop brings an order on, as far as it has decided.
func verdict(decision int) int {
	switch decision {
	case api.Committed:
		return api.Commit
	case api.Aborted:
		return api.Abort
	}
	return api.Prepare
}
