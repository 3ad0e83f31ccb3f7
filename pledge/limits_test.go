package pledge_test

import (
	"testing"

	"gamp/api"
	"gamp/pledge"
)

// fill copies the last message until this many are under way.
func fill(t *testing.T, x *pledge.Trade, messages int) {
	t.Helper()
	for len(x.Flight()) < messages {
		call(t, x.Copy, len(x.Flight())-1)
	}
}

// wide is a trade of 5 shops with an order of 5 shops that is Prepared at all of them, and whose last answer is under way alone.
func wide(t *testing.T) *pledge.Trade {
	x := trade(t, rows(5, 8))
	var changes []api.Change
	for s := range 5 {
		changes = append(changes, api.Change{Shop: 4 - s, Item: s, Add: 1})
	}
	submit(t, x, 2, changes, 0)
	deliver(t, x, "prepare 20 0", "prepare 21 0", "prepare 22 0", "prepare 23 0", "prepare 24 0", "yes 02 0", "yes 12 0", "yes 22 0", "yes 32 0")
	underWay(t, x, "yes 42 0")
	return x
}

func TestErrFullOfCopies(t *testing.T) {
	x, a := wide(t), good()
	fill(t, x, 399)
	a.check(t, x, api.OK, "Copy")
	fill(t, x, 400)
	a.check(t, x, api.ErrFull, "Copy")
	a.message = 399
	a.check(t, x, api.ErrFull, "Copy")
	for _, i := range []int{400, -1} {
		a.message = i
		a.check(t, x, api.ErrArg, "Copy")
	}
	call(t, x.Lose, 200)
	a.message = 398
	a.check(t, x, api.OK, "Copy")
}

// Of the five messages of a decision those are lost that are sent last.
func TestFullOfDecisions(t *testing.T) {
	all := []string{"commit 20 0", "commit 21 0", "commit 22 0", "commit 23 0", "commit 24 0"}
	for messages, sent := range map[int]int{400: 1, 399: 2, 398: 3, 397: 4, 396: 5, 395: 5, 200: 5} {
		x := wide(t)
		fill(t, x, messages)
		call(t, x.Deliver, messages/2)
		decision(t, x, 0, api.Committed)
		flight := shorts(x.Flight())
		if len(flight) != messages-1+sent {
			t.Fatalf("of %d messages there are %d", messages, len(flight))
		}
		for i, want := range all[:sent] {
			if flight[messages-1+i] != want {
				t.Errorf("message %d is %s, not %s", messages-1+i, flight[messages-1+i], want)
			}
		}
		settle(t, x, 10, true)
		stocks(t, x, []int{0, 0, 0, 0, 1, 0, 0, 0}, []int{0, 0, 0, 1, 0, 0, 0, 0})
	}
}

// An order that is submitted when there is no room has a number, but its messages are lost.
func TestFullOfOrders(t *testing.T) {
	for messages, sent := range map[int]int{400: 0, 399: 1, 398: 2, 397: 3, 396: 3} {
		x := wide(t)
		fill(t, x, messages)
		submit(t, x, 0, []api.Change{{Shop: 3, Item: 7, Add: 1}, {Shop: 1, Item: 7, Add: 1}, {Shop: 4, Item: 7, Add: 1}}, 1)
		flight := shorts(x.Flight())
		if len(flight) != messages+sent {
			t.Fatalf("of %d messages there are %d", messages, len(flight))
		}
		for i, want := range []string{"prepare 01 1", "prepare 03 1", "prepare 04 1"}[:sent] {
			if flight[messages+i] != want {
				t.Errorf("message %d is %s, not %s", messages+i, flight[messages+i], want)
			}
		}
		decision(t, x, 1, api.Preparing)
		states(t, x, 1, api.Unknown, api.Unknown, api.Unknown, api.Unknown, api.Unknown)
		settle(t, x, 10, true)
		decision(t, x, 1, api.Committed)
	}
}

// A tick sends what there is room for.
func TestFullOfTicks(t *testing.T) {
	for messages, sent := range map[int]int{400: 0, 399: 1, 398: 2, 397: 2} {
		x := wide(t)
		fill(t, x, messages)
		call(t, x.Tick, 2)
		flight := shorts(x.Flight())
		if len(flight) != messages+sent {
			t.Fatalf("of %d messages there are %d", messages, len(flight))
		}
		for i, want := range []string{"prepare 24 0", "ask 22 0"}[:sent] {
			if flight[messages+i] != want {
				t.Errorf("message %d is %s, not %s", messages+i, flight[messages+i], want)
			}
		}
	}
}

func TestErrFullOfOrders(t *testing.T) {
	x, a := trade(t, rows(5, 8)), good()
	for n := range 199 {
		submit(t, x, n%5, []api.Change{{Shop: n % 3, Item: n % 8, Add: 1}}, n)
		settle(t, x, 10, true)
	}
	a.check(t, x, api.OK, "Submit")
	submit(t, x, 1, a.changes, 199)
	a.check(t, x, api.ErrFull, "Submit")
	if x.Orders() != 200 {
		t.Errorf("%d orders", x.Orders())
	}
	a.order = 199
	a.check(t, x, api.OK, "State", "Decision")
	settle(t, x, 10, true)
	decision(t, x, 199, api.Committed)

	// What else is wrong with an order is named first.
	a.changes = nil
	a.check(t, x, api.ErrArg, "Submit")
	a = good()
	call(t, x.Crash, 1)
	a.check(t, x, api.ErrDown, "Submit")
	a.shop = 5
	a.check(t, x, api.ErrArg, "Submit")
}

// 200 orders at a time, of which a shop that is down takes part in all: the rounds are used up, and it is soon done.
func TestAllRounds(t *testing.T) {
	x := trade(t, rows(5, 8))
	for n := range 200 {
		var changes []api.Change
		for i := range 8 {
			changes = append(changes, api.Change{Shop: i % 5, Item: (n + i) % 8, Add: 1})
		}
		submit(t, x, n%5, changes, n)
	}
	if n := len(x.Flight()); n != 400 {
		t.Errorf("%d messages", n)
	}
	call(t, x.Crash, 4)
	settle(t, x, 1000, false)
	call(t, x.Restart, 4)
	settle(t, x, 1000, true)
}
