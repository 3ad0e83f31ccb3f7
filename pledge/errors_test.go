package pledge_test

import (
	"slices"
	"testing"

	"gamp/api"
	"gamp/pledge"
)

const (
	lowest  = -1 << 63
	highest = 1<<63 - 1
)

// arguments are those of all methods.
type arguments struct {
	shop, message, order, rounds int
	changes                      []api.Change
}

// errorOf calls a method, and fails if it returns more than an error.
func (a arguments) errorOf(t *testing.T, x *pledge.Trade, method string) api.Errno {
	t.Helper()
	var e api.Errno
	var n int
	var stock []int
	var ok bool
	switch method {
	case "Submit":
		n, e = x.Submit(a.shop, a.changes)
	case "Deliver":
		e = x.Deliver(a.message)
	case "Lose":
		e = x.Lose(a.message)
	case "Copy":
		e = x.Copy(a.message)
	case "Crash":
		e = x.Crash(a.shop)
	case "Restart":
		e = x.Restart(a.shop)
	case "Tick":
		e = x.Tick(a.shop)
	case "Stock":
		stock, e = x.Stock(a.shop)
	case "State":
		n, e = x.State(a.shop, a.order)
	case "Decision":
		n, e = x.Decision(a.order)
	case "Settle":
		ok, e = x.Settle(a.rounds)
	}
	if e != api.OK && (n != 0 || len(stock) > 0 || ok) {
		t.Errorf("%s(%v) returns more than the error %d", method, a, e)
	}
	return e
}

// check calls methods of clones of a trade, and fails if they return another error, or if one changes a state in spite of an error (P6).
func (a arguments) check(t *testing.T, x *pledge.Trade, want api.Errno, methods ...string) {
	t.Helper()
	before := secrets(x, api.MaxShops)
	for _, method := range methods {
		y := x.Clone()
		if e := a.errorOf(t, y, method); e != want {
			t.Errorf("%s(%v): error %d, not %d", method, a, e, want)
		}
		if want != api.OK && secrets(y, api.MaxShops) != before {
			t.Errorf("%s(%v) changes the state", method, a)
		}
	}
	if secrets(x, api.MaxShops) != before {
		t.Errorf("%v: a clone changes the trade", a)
	}
}

// changing are the methods that change a trade.
func changing() []string {
	return []string{"Submit", "Deliver", "Lose", "Copy", "Crash", "Restart", "Tick", "Settle"}
}

func showing() []string {
	return []string{"Stock", "State", "Decision"}
}

// ofShops are the methods with a shop.
func ofShops() []string {
	return []string{"Submit", "Crash", "Restart", "Tick", "Stock", "State"}
}

// good are arguments that no method of busy refuses, but Restart.
func good() arguments {
	return arguments{shop: 1, message: 0, order: 1, rounds: 10, changes: []api.Change{{Shop: 2, Item: 1, Add: 1}}}
}

// busy has three shops, of which shop 2 is down, two goods, two orders, and messages.
func busy(t *testing.T) *pledge.Trade {
	x := trade(t, [][]int{{5, 6}, {7, 8}, {9, 10}})
	submit(t, x, 0, []api.Change{{Shop: 1, Item: 0, Add: -1}, {Shop: 0, Item: 0, Add: 1}}, 0)
	deliver(t, x, "prepare 00 0", "prepare 01 0")
	submit(t, x, 1, []api.Change{{Shop: 2, Item: 1, Add: 1}}, 1)
	deliver(t, x, "yes 00 0")
	call(t, x.Crash, 2)
	underWay(t, x, "yes 10 0", "prepare 12 1")
	return x
}

func TestGood(t *testing.T) {
	x, a := busy(t), good()
	a.check(t, x, api.OK, "Submit", "Deliver", "Lose", "Copy", "Crash", "Tick", "Stock", "State", "Decision", "Settle")
	a.shop = 2
	a.check(t, x, api.OK, "Restart", "Stock", "State")
}

func TestErrorsOfNew(t *testing.T) {
	for _, c := range []struct {
		stock [][]int
		want  api.Errno
	}{
		{nil, api.ErrArg}, {[][]int{}, api.ErrArg}, {[][]int{nil}, api.ErrArg}, {[][]int{{}}, api.ErrArg}, {[][]int{{}, {}}, api.ErrArg}, {[][]int{{1}, {}}, api.ErrArg}, {[][]int{{}, {1}}, api.ErrArg}, {[][]int{{1}, nil}, api.ErrArg}, {[][]int{{1}, {1, 2}}, api.ErrArg}, {[][]int{{1, 2}, {1, 2}, {1}}, api.ErrArg},
		{[][]int{{-1}}, api.ErrArg}, {[][]int{{10001}}, api.ErrArg}, {[][]int{{0, 0}, {0, -1}}, api.ErrArg}, {[][]int{{0, 0}, {10001, 0}}, api.ErrArg}, {[][]int{{lowest}}, api.ErrArg}, {[][]int{{highest}}, api.ErrArg}, {[][]int{{5, lowest, 5}}, api.ErrArg},
		{make([][]int, 6), api.ErrArg}, {rows(6, 1), api.ErrArg}, {rows(1, 9), api.ErrArg}, {rows(5, 9), api.ErrArg}, {rows(6, 8), api.ErrArg}, {rows(1000, 1), api.ErrArg}, {rows(1, 1000), api.ErrArg},
		{rows(1, 1), api.OK}, {rows(5, 1), api.OK}, {rows(1, 8), api.OK}, {rows(5, 8), api.OK}, {[][]int{{0}}, api.OK}, {[][]int{{10000}}, api.OK}, {[][]int{{0, 10000}, {10000, 0}}, api.OK},
	} {
		x, e := pledge.New(c.stock)
		if e != c.want || (x == nil) != (e != api.OK) {
			t.Errorf("New(%v): %v, error %d, not %d", c.stock, x, e, c.want)
		}
		if e != api.OK {
			continue
		}
		stocks(t, x, c.stock...)
		for s := range c.stock {
			if !x.Up(s) {
				t.Errorf("shop %d of New(%v) is down", s, c.stock)
			}
		}
		if x.Orders() != 0 || len(x.Flight()) != 0 || x.Up(len(c.stock)) || x.Up(-1) {
			t.Errorf("New(%v) is\n%s", c.stock, everything(x, 6))
		}
	}
}

func rows(shops, items int) [][]int {
	stock := make([][]int, shops)
	for s := range stock {
		stock[s] = make([]int, items)
	}
	return stock
}

func TestErrArgOfShops(t *testing.T) {
	x, a := busy(t), good()
	for _, shop := range []int{-1, 3, 4, 5, lowest, highest, -1 << 32, 1 << 32} {
		a.shop = shop
		a.check(t, x, api.ErrArg, ofShops()...)
		a.check(t, x, api.OK, "Deliver", "Lose", "Copy", "Decision", "Settle")
		if x.Up(shop) {
			t.Errorf("Up(%d)", shop)
		}
	}
}

func TestErrArgOfMessages(t *testing.T) {
	x, a := busy(t), good()
	for _, i := range []int{-1, 2, 3, 400, lowest, highest} {
		a.message = i
		a.check(t, x, api.ErrArg, "Deliver", "Lose", "Copy")
	}
	a.message = 1
	a.check(t, x, api.OK, "Deliver", "Lose", "Copy")
	free(x)
	a.message = 0
	a.check(t, x, api.ErrArg, "Deliver", "Lose", "Copy")
}

func TestErrArgOfOrders(t *testing.T) {
	x, a := busy(t), good()
	for _, order := range []int{-1, 2, 200, lowest, highest} {
		a.order = order
		a.check(t, x, api.ErrArg, "State", "Decision")
	}
	a.order = 0
	a.check(t, x, api.OK, "State", "Decision")
	a.check(t, trade(t, [][]int{{1}, {1}}), api.ErrArg, "State", "Decision")
}

func TestErrArgOfRounds(t *testing.T) {
	x, a := busy(t), good()
	for _, rounds := range []int{-1, 1001, lowest, highest} {
		a.rounds = rounds
		a.check(t, x, api.ErrArg, "Settle")
	}
	for _, rounds := range []int{0, 1, 999, 1000} {
		a.rounds = rounds
		a.check(t, x, api.OK, "Settle")
	}
}

func TestErrArgOfChanges(t *testing.T) {
	x, a := busy(t), good()
	fine := api.Change{Shop: 0, Item: 0, Add: 1}
	for _, bad := range []api.Change{{Shop: -1, Item: 0, Add: 1}, {Shop: 3, Item: 0, Add: 1}, {Shop: lowest, Item: 0, Add: 1}, {Shop: highest, Item: 0, Add: 1}, {Shop: 1, Item: -1, Add: 1}, {Shop: 1, Item: 2, Add: 1}, {Shop: 1, Item: lowest, Add: 1}, {Shop: 1, Item: highest, Add: 1}, {Shop: 1, Item: 0, Add: 0}, {Shop: 1, Item: 0, Add: 10001}, {Shop: 1, Item: 0, Add: -10001}, {Shop: 1, Item: 0, Add: lowest}, {Shop: 1, Item: 0, Add: highest}, {Shop: 0, Item: 0, Add: 1}, {Shop: 0, Item: 0, Add: 2}, {Shop: 0, Item: 0, Add: -1}} {
		for _, changes := range [][]api.Change{{bad, fine}, {fine, bad}, {fine, {Shop: 2, Item: 0, Add: 1}, bad}} {
			a.changes = changes
			a.check(t, x, api.ErrArg, "Submit")
		}
	}
	for _, changes := range [][]api.Change{nil, {}, slices.Repeat([]api.Change{fine}, 8), slices.Repeat([]api.Change{fine}, 9)} {
		a.changes = changes
		a.check(t, x, api.ErrArg, "Submit")
	}
	large := trade(t, rows(5, 8))
	for changes, want := range map[int]api.Errno{1: api.OK, 7: api.OK, 8: api.OK, 9: api.ErrArg, 10: api.ErrArg, 40: api.ErrArg} {
		a.changes = nil
		for i := range changes {
			a.changes = append(a.changes, api.Change{Shop: i % 5, Item: i % 8, Add: 1})
		}
		a.check(t, large, want, "Submit")
	}
	for _, changes := range [][]api.Change{{fine}, {{Shop: 0, Item: 0, Add: 10000}}, {{Shop: 0, Item: 0, Add: -10000}}, {fine, {Shop: 0, Item: 1, Add: 1}, {Shop: 1, Item: 0, Add: 1}}, {{Shop: 2, Item: 1, Add: 3}, {Shop: 2, Item: 0, Add: 3}}} {
		a.changes = changes
		a.check(t, x, api.OK, "Submit")
	}
}

// Errors of a shop that is down come after those of arguments.
func TestErrDown(t *testing.T) {
	x, a := busy(t), good()
	a.shop = 2
	a.check(t, x, api.ErrDown, "Submit", "Crash", "Tick")
	a.check(t, x, api.OK, "Restart", "Stock", "State")
	a.changes = nil
	a.check(t, x, api.ErrArg, "Submit")
	a = good()
	a.shop = 0
	a.check(t, x, api.ErrState, "Restart")
	call(t, x.Restart, 2)
	a.shop = 2
	a.check(t, x, api.ErrState, "Restart")
	a.check(t, x, api.OK, "Submit", "Crash", "Tick")
	call(t, x.Crash, 0)
	a.shop = 0
	a.check(t, x, api.ErrDown, "Submit", "Crash", "Tick")
	// What a shop that is down is sent can be delivered, copied and lost.
	a.check(t, x, api.OK, "Deliver", "Lose", "Copy", "Settle", "Restart")
}

// madeByHand are trades that New or Clone did not return.
func madeByHand(t *testing.T) []*pledge.Trade {
	var zero pledge.Trade
	byHand := *busy(t)
	other := *busy(t).Clone()
	return []*pledge.Trade{nil, &zero, {}, new(pledge.Trade), &byHand, &other}
}

func TestMadeByHand(t *testing.T) {
	for i, x := range madeByHand(t) {
		for _, a := range []arguments{good(), {}, {-1, -1, -1, -1, nil}, {7, 7, 7, 7777, nil}, {highest, highest, highest, highest, good().changes}, {lowest, lowest, lowest, lowest, good().changes}} {
			for _, method := range changing() {
				if e := a.errorOf(t, x, method); e != api.ErrState {
					t.Errorf("trade %d: %s(%v): error %d, not ErrState", i, method, a, e)
				}
			}
			for _, method := range showing() {
				if e := a.errorOf(t, x, method); e != api.ErrArg {
					t.Errorf("trade %d: %s(%v): error %d, not ErrArg", i, method, a, e)
				}
			}
			if x.Up(a.shop) {
				t.Errorf("trade %d: Up(%d)", i, a.shop)
			}
		}
		if x.Clone() != nil || len(x.Flight()) != 0 || x.Orders() != 0 {
			t.Errorf("trade %d: a clone, messages or orders", i)
		}
	}
}

// A trade that was copied by hand changes nothing of the one that New returned.
func TestCopiedByHand(t *testing.T) {
	x := busy(t)
	before := secrets(x, 3)
	byHand := *x
	for _, method := range changing() {
		good().errorOf(t, &byHand, method)
	}
	if after := secrets(x, 3); after != before {
		t.Errorf("%s\nbecame\n%s", before, after)
	}
}
