package pledge_test

import (
	"fmt"
	"math/rand"
	"slices"
	"testing"

	"gamp/api"
	"gamp/pledge"
)

// move takes from shop 0 and brings to shop 1.
func move(add int) []api.Change {
	return []api.Change{{Shop: 0, Item: 0, Add: -add}, {Shop: 1, Item: 0, Add: add}}
}

// submit submits an order and fails unless it has a number.
func submit(t *testing.T, x *pledge.Trade, first int, changes []api.Change, number int) {
	t.Helper()
	if n, e := x.Submit(first, changes); n != number || e != api.OK {
		t.Fatalf("Submit(%d, %v) = %d, %d, not %d", first, changes, n, e, number)
	}
}

// deliver delivers first messages, and fails unless they are as expected.
func deliver(t *testing.T, x *pledge.Trade, want ...string) {
	t.Helper()
	for _, w := range want {
		flight := x.Flight()
		if len(flight) == 0 || short(flight[0]) != w {
			t.Fatalf("under way are %v, not %s", shorts(flight), w)
		}
		if e := x.Deliver(0); e != api.OK {
			t.Fatalf("Deliver(0): %d", e)
		}
	}
}

// short names a message without its changes: what, from, to and order.
func short(m api.Message) string {
	names := []string{"nothing", "prepare", "yes", "no", "commit", "abort", "done", "ask"}
	return fmt.Sprintf("%s %d%d %d", names[m.Kind], m.From, m.To, m.Order)
}

func shorts(flight []api.Message) []string {
	all := []string{}
	for _, m := range flight {
		all = append(all, short(m))
	}
	return all
}

// underWay fails unless these messages are under way.
func underWay(t *testing.T, x *pledge.Trade, want ...string) {
	t.Helper()
	if found := shorts(x.Flight()); !slices.Equal(found, want) {
		t.Errorf("under way are %q, not %q", found, want)
	}
}

func stocks(t *testing.T, x *pledge.Trade, want ...[]int) {
	t.Helper()
	for s, w := range want {
		if found, e := x.Stock(s); e != api.OK || !slices.Equal(found, w) {
			t.Errorf("Stock(%d) = %v, %d, not %v", s, found, e, w)
		}
	}
}

func states(t *testing.T, x *pledge.Trade, order int, want ...int) {
	t.Helper()
	for s, w := range want {
		if found, e := x.State(s, order); e != api.OK || found != w {
			t.Errorf("State(%d, %d) = %d, %d, not %d", s, order, found, e, w)
		}
	}
}

func decision(t *testing.T, x *pledge.Trade, order, want int) {
	t.Helper()
	if found, e := x.Decision(order); e != api.OK || found != want {
		t.Errorf("Decision(%d) = %d, %d, not %d", order, found, e, want)
	}
}

// call calls a function and fails if it returns an error.
func call(t *testing.T, f func(int) api.Errno, i int) {
	t.Helper()
	if e := f(i); e != api.OK {
		t.Fatalf("%d: error %d", i, e)
	}
}

// settle fails unless a trade is then at rest, or not.
func settle(t *testing.T, x *pledge.Trade, rounds int, want bool) {
	t.Helper()
	if found, e := x.Settle(rounds); e != api.OK || found != want {
		t.Errorf("Settle(%d) = %t, %d, not %t", rounds, found, e, want)
	}
}

func TestExample1(t *testing.T) {
	x := trade(t, [][]int{{5}, {0}})
	submit(t, x, 0, move(2), 0)
	want := []api.Message{{Kind: api.Prepare, From: 0, To: 0, Order: 0, Changes: move(2)[:1]}, {Kind: api.Prepare, From: 0, To: 1, Order: 0, Changes: move(2)[1:]}}
	if found := x.Flight(); fmt.Sprint(found) != fmt.Sprint(want) {
		t.Errorf("Flight() = %v, not %v", found, want)
	}
	deliver(t, x, "prepare 00 0", "prepare 01 0", "yes 00 0", "yes 10 0", "commit 00 0", "commit 01 0", "done 00 0", "done 10 0")
	underWay(t, x)
	stocks(t, x, []int{3}, []int{2})
	states(t, x, 0, api.Committed, api.Committed)
	decision(t, x, 0, api.Committed)
}

func TestExample2(t *testing.T) {
	x := trade(t, [][]int{{5}, {0}})
	submit(t, x, 0, move(2), 0)
	deliver(t, x, "prepare 00 0", "prepare 01 0", "yes 00 0")
	call(t, x.Crash, 0)
	decision(t, x, 0, api.Preparing)
	deliver(t, x, "yes 10 0")
	call(t, x.Restart, 0)
	underWay(t, x)
	decision(t, x, 0, api.Aborted)
	states(t, x, 0, api.Prepared, api.Prepared)
	call(t, x.Tick, 1)
	deliver(t, x, "ask 10 0", "abort 01 0", "done 10 0")
	underWay(t, x)
	states(t, x, 0, api.Prepared, api.Aborted)
	settle(t, x, 1, true)
	stocks(t, x, []int{5}, []int{0})
}

func TestExample3(t *testing.T) {
	x := trade(t, [][]int{{5}, {0}})
	submit(t, x, 1, []api.Change{{Shop: 0, Item: 0, Add: -9}}, 0)
	deliver(t, x, "prepare 10 0", "no 01 0", "abort 10 0", "done 01 0")
	underWay(t, x)
	states(t, x, 0, api.Aborted, api.Unknown)
	decision(t, x, 0, api.Aborted)
	stocks(t, x, []int{5}, []int{0})
}

// Random trades do what the model does, whatever is called, in time or not.
func TestWalks(t *testing.T) {
	r := rand.New(rand.NewSource(91))
	for range 1500 {
		b := newBoth(t, someStock(r))
		for range r.Intn(120) {
			b.do(t, b.someStep(r))
		}
		if found, want := secrets(b.x, len(b.first)), b.m.secrets(); found != want {
			t.Fatalf("after %v of %v:\n%s\nnot\n%s", b.past, b.first, found, want)
		}
	}
}

// crowding is a random step of a trade that is crowded, or becomes so.
func crowding(r *rand.Rand, b *both) step {
	under := len(b.x.Flight())
	switch {
	case under > 0 && under < 400 && r.Intn(3) > 0:
		return step{"copy", r.Intn(under), nil}
	case under > 390 && r.Intn(3) > 0:
		return step{"deliver", r.Intn(under), nil}
	}
	return b.someStep(r)
}

// The same where messages are too many.
func TestCrowdedWalks(t *testing.T) {
	r := rand.New(rand.NewSource(92))
	lost := 0
	for range 8 {
		b := newBoth(t, someStock(r))
		for range 900 {
			b.do(t, crowding(r, b))
			if len(b.x.Flight()) == 400 {
				lost++
			}
		}
	}
	if lost < 100 {
		t.Errorf("only %d times there were 400 messages", lost)
	}
}

// Many orders, in trades of all sizes.
func TestLongWalks(t *testing.T) {
	r := rand.New(rand.NewSource(93))
	for range 6 {
		b := newBoth(t, someStock(r))
		for range 260 {
			b.do(t, step{"submit", r.Intn(len(b.first)), someChanges(r, len(b.first), len(b.first[0]))})
			for range r.Intn(4) {
				b.do(t, b.someStep(r))
			}
		}
	}
}

// prepared is a trade in which shop 1 is Prepared for the order 0 of shop 0, which waits for shop 2.
func prepared(t *testing.T) *pledge.Trade {
	x := trade(t, [][]int{{5, 5}, {5, 5}, {5, 5}})
	submit(t, x, 0, []api.Change{{Shop: 2, Item: 0, Add: 1}, {Shop: 1, Item: 0, Add: -2}, {Shop: 1, Item: 1, Add: 3}}, 0)
	deliver(t, x, "prepare 01 0")
	states(t, x, 0, api.Unknown, api.Prepared, api.Unknown)
	return x
}

// A held item refuses another order, whether both would fit or not; other items, and the same item elsewhere, are free.
func TestHeld(t *testing.T) {
	for _, c := range []struct {
		changes []api.Change
		want    int
	}{
		{[]api.Change{{Shop: 1, Item: 0, Add: 1}}, api.Aborted},
		{[]api.Change{{Shop: 1, Item: 0, Add: -1}}, api.Aborted},
		{[]api.Change{{Shop: 1, Item: 1, Add: 1}}, api.Aborted},
		{[]api.Change{{Shop: 2, Item: 0, Add: 1}}, api.Prepared},
		{[]api.Change{{Shop: 2, Item: 1, Add: 1}}, api.Prepared},
		{[]api.Change{{Shop: 0, Item: 0, Add: 1}}, api.Prepared},
	} {
		x := prepared(t)
		shop := c.changes[0].Shop
		submit(t, x, 2, c.changes, 1)
		call(t, x.Deliver, 2)
		if found, e := x.State(shop, 1); found != c.want || e != api.OK {
			t.Errorf("%v: %d, %d, not %d", c.changes, found, e, c.want)
		}
		states(t, x, 0, api.Unknown, api.Prepared, api.Unknown)
	}
}

// An item is held until the order is Committed or Aborted, and not by an order that is Unknown; one refused change refuses all of a shop.
func TestHeldUntil(t *testing.T) {
	x := prepared(t)
	other := []api.Change{{Shop: 1, Item: 0, Add: 1}}
	for n := 1; n < 3; n++ {
		submit(t, x, 1, other, n)
	}
	deliver(t, x, "prepare 02 0", "yes 10 0", "prepare 11 1")
	states(t, x, 1, api.Unknown, api.Aborted, api.Unknown)
	deliver(t, x, "prepare 11 2")
	states(t, x, 2, api.Unknown, api.Aborted, api.Unknown)
	deliver(t, x, "yes 20 0", "no 11 1", "no 11 2")
	submit(t, x, 1, []api.Change{{Shop: 1, Item: 0, Add: -3}, {Shop: 2, Item: 1, Add: 1}}, 3)
	deliver(t, x, "commit 01 0")
	stocks(t, x, []int{5, 5}, []int{3, 8}, []int{5, 5})
	deliver(t, x, "commit 02 0", "abort 11 1", "abort 11 2", "prepare 11 3")
	states(t, x, 3, api.Unknown, api.Prepared, api.Unknown)
	settle(t, x, 10, true)
	stocks(t, x, []int{5, 5}, []int{0, 8}, []int{6, 6})

	// An order that is not prepared holds nothing, and one change that does not fit refuses the other ones too.
	x = trade(t, [][]int{{5, 5, 5}})
	submit(t, x, 0, []api.Change{{Shop: 0, Item: 0, Add: -1}}, 0)
	submit(t, x, 0, []api.Change{{Shop: 0, Item: 1, Add: -1}, {Shop: 0, Item: 0, Add: -6}, {Shop: 0, Item: 2, Add: -1}}, 1)
	call(t, x.Deliver, 1)
	states(t, x, 1, api.Aborted)
	submit(t, x, 0, []api.Change{{Shop: 0, Item: 0, Add: -2}, {Shop: 0, Item: 2, Add: 1}}, 2)
	call(t, x.Deliver, 2)
	states(t, x, 2, api.Prepared)
	call(t, x.Deliver, 0)
	states(t, x, 0, api.Aborted)
}

// A stock of 0 to 10000 fits, and nothing else.
func TestFits(t *testing.T) {
	for _, c := range []struct {
		stock, add, want int
	}{
		{0, -1, api.Aborted}, {0, 1, api.Committed}, {0, 10000, api.Committed}, {1, 10000, api.Aborted}, {1, -1, api.Committed}, {1, -2, api.Aborted}, {10000, 1, api.Aborted}, {10000, -10000, api.Committed}, {9999, -10000, api.Aborted}, {9999, 1, api.Committed}, {9999, 2, api.Aborted}, {5000, 5000, api.Committed}, {5000, 5001, api.Aborted}, {5000, -5000, api.Committed}, {5000, -5001, api.Aborted},
	} {
		x := trade(t, [][]int{{7}, {c.stock}})
		submit(t, x, 0, []api.Change{{Shop: 1, Item: 0, Add: c.add}}, 0)
		settle(t, x, 10, true)
		decision(t, x, 0, c.want)
		states(t, x, 0, api.Unknown, c.want)
		after := c.stock
		if c.want == api.Committed {
			after += c.add
		}
		stocks(t, x, []int{7}, []int{after})
	}
}

// What a shop does with Prepare a second time, in each state.
func TestPrepareAgain(t *testing.T) {
	for until, want := range []string{"no 10 0", "yes 10 0", "yes 10 0", "no 10 0"} {
		x := trade(t, [][]int{{5}, {5}, {5}})
		changes := []api.Change{{Shop: 1, Item: 0, Add: -2}}
		if until == 0 {
			changes[0].Add = -6
		}
		submit(t, x, 0, changes, 0)
		call(t, x.Copy, 0)
		call(t, x.Deliver, 0)
		switch until {
		case 2:
			call(t, x.Deliver, 1)
			call(t, x.Deliver, 1)
			call(t, x.Lose, 1)
			states(t, x, 0, api.Unknown, api.Committed)
		case 3:
			call(t, x.Crash, 0)
			call(t, x.Restart, 0)
			call(t, x.Deliver, 1)
			call(t, x.Deliver, 1)
			call(t, x.Lose, 1)
			states(t, x, 0, api.Unknown, api.Aborted)
		default:
			call(t, x.Lose, 1)
		}
		stock, _ := x.Stock(1)
		deliver(t, x, "prepare 01 0")
		underWay(t, x, want)
		stocks(t, x, []int{5}, stock)
	}
}

// The last one of all answers decides, and each only once.
func TestYes(t *testing.T) {
	x := trade(t, [][]int{{5}, {5}, {5}})
	changes := []api.Change{{Shop: 2, Item: 0, Add: 1}, {Shop: 0, Item: 0, Add: 1}, {Shop: 1, Item: 0, Add: 1}}
	submit(t, x, 1, changes, 0)
	deliver(t, x, "prepare 10 0", "prepare 11 0", "prepare 12 0")
	for range 3 {
		call(t, x.Copy, 0)
	}
	deliver(t, x, "yes 01 0")
	decision(t, x, 0, api.Preparing)
	underWay(t, x, "yes 11 0", "yes 21 0", "yes 01 0", "yes 01 0", "yes 01 0")
	call(t, x.Deliver, 2)
	call(t, x.Deliver, 2)
	decision(t, x, 0, api.Preparing)
	call(t, x.Tick, 1)
	underWay(t, x, "yes 11 0", "yes 21 0", "yes 01 0", "prepare 11 0", "prepare 12 0", "ask 11 0")
	deliver(t, x, "yes 11 0")
	decision(t, x, 0, api.Preparing)
	deliver(t, x, "yes 21 0")
	decision(t, x, 0, api.Committed)
	underWay(t, x, "yes 01 0", "prepare 11 0", "prepare 12 0", "ask 11 0", "commit 10 0", "commit 11 0", "commit 12 0")
	deliver(t, x, "yes 01 0")
	underWay(t, x, "prepare 11 0", "prepare 12 0", "ask 11 0", "commit 10 0", "commit 11 0", "commit 12 0", "commit 10 0")
	deliver(t, x, "prepare 11 0", "prepare 12 0", "ask 11 0")
	underWay(t, x, "commit 10 0", "commit 11 0", "commit 12 0", "commit 10 0", "yes 11 0", "yes 21 0", "commit 11 0")
	deliver(t, x, "commit 10 0", "commit 11 0", "commit 12 0", "commit 10 0")
	stocks(t, x, []int{6}, []int{6}, []int{6})
	deliver(t, x, "yes 11 0", "yes 21 0", "commit 11 0", "done 01 0", "done 11 0", "done 21 0", "done 01 0", "commit 11 0", "commit 12 0", "done 11 0", "done 11 0", "done 21 0")
	underWay(t, x)
	stocks(t, x, []int{6}, []int{6}, []int{6})
	for s := range 3 {
		call(t, x.Tick, s)
	}
	underWay(t, x)
}

// A No decides, and what comes later changes nothing.
func TestNo(t *testing.T) {
	x := trade(t, [][]int{{5}, {0}})
	submit(t, x, 0, []api.Change{{Shop: 1, Item: 0, Add: -1}, {Shop: 0, Item: 0, Add: -1}}, 0)
	deliver(t, x, "prepare 00 0", "prepare 01 0")
	call(t, x.Copy, 0)
	call(t, x.Copy, 1)
	call(t, x.Deliver, 1)
	decision(t, x, 0, api.Aborted)
	underWay(t, x, "yes 00 0", "yes 00 0", "no 10 0", "abort 00 0", "abort 01 0")
	deliver(t, x, "yes 00 0", "yes 00 0", "no 10 0")
	underWay(t, x, "abort 00 0", "abort 01 0", "abort 00 0", "abort 00 0")
	deliver(t, x, "abort 00 0", "abort 01 0", "abort 00 0", "abort 00 0", "done 00 0", "done 10 0", "done 00 0", "done 00 0")
	underWay(t, x)
	states(t, x, 0, api.Aborted, api.Aborted)
	stocks(t, x, []int{5}, []int{0})
}

// An Abort that comes before Prepare refuses it.
func TestEarlyAbort(t *testing.T) {
	x := trade(t, [][]int{{5}, {0}})
	submit(t, x, 0, move(2), 0)
	call(t, x.Crash, 0)
	call(t, x.Restart, 0)
	decision(t, x, 0, api.Aborted)
	call(t, x.Tick, 0)
	underWay(t, x, "prepare 00 0", "prepare 01 0", "abort 00 0", "abort 01 0")
	call(t, x.Deliver, 3)
	states(t, x, 0, api.Unknown, api.Aborted)
	underWay(t, x, "prepare 00 0", "prepare 01 0", "abort 00 0", "done 10 0")
	call(t, x.Deliver, 1)
	states(t, x, 0, api.Unknown, api.Aborted)
	underWay(t, x, "prepare 00 0", "abort 00 0", "done 10 0", "no 10 0")
	deliver(t, x, "prepare 00 0")
	states(t, x, 0, api.Prepared, api.Aborted)
	settle(t, x, 1, true)
	states(t, x, 0, api.Aborted, api.Aborted)
}

// A shop asks the first shop, which answers only if it has decided.
func TestAsk(t *testing.T) {
	x := prepared(t)
	call(t, x.Lose, 1)
	call(t, x.Tick, 1)
	call(t, x.Tick, 2)
	underWay(t, x, "prepare 02 0", "ask 10 0")
	call(t, x.Deliver, 1)
	underWay(t, x, "prepare 02 0")
	call(t, x.Tick, 0)
	underWay(t, x, "prepare 02 0", "prepare 01 0", "prepare 02 0")
	deliver(t, x, "prepare 02 0", "prepare 01 0", "prepare 02 0", "yes 20 0", "yes 10 0")
	decision(t, x, 0, api.Committed)
	call(t, x.Tick, 1)
	underWay(t, x, "yes 20 0", "commit 01 0", "commit 02 0", "ask 10 0")
	deliver(t, x, "yes 20 0", "commit 01 0", "commit 02 0", "ask 10 0")
	underWay(t, x, "commit 02 0", "done 10 0", "done 20 0", "commit 01 0")
	call(t, x.Tick, 1)
	underWay(t, x, "commit 02 0", "done 10 0", "done 20 0", "commit 01 0")
}

// A tick goes through the orders of the shop, and then asks about those that it is prepared for, both rising.
func TestTick(t *testing.T) {
	x := trade(t, [][]int{{5, 5, 5, 5}, {5, 5, 5, 5}})
	for n, first := range []int{1, 0, 1, 0} {
		submit(t, x, first, []api.Change{{Shop: 1, Item: n, Add: 1}, {Shop: 0, Item: n, Add: -1}}, n)
	}
	for range 8 {
		call(t, x.Lose, len(x.Flight())-1)
	}
	call(t, x.Tick, 1)
	underWay(t, x, "prepare 10 0", "prepare 11 0", "prepare 10 2", "prepare 11 2")
	want := "[{1 1 0 0 [{0 0 -1}]} {1 1 1 0 [{1 0 1}]} {1 1 0 2 [{0 2 -1}]} {1 1 1 2 [{1 2 1}]}]"
	if found := fmt.Sprint(x.Flight()); found != want {
		t.Errorf("Flight() = %s, not %s", found, want)
	}
	deliver(t, x, "prepare 10 0", "prepare 11 0", "prepare 10 2", "prepare 11 2")
	call(t, x.Tick, 0)
	underWay(t, x, "yes 01 0", "yes 11 0", "yes 01 2", "yes 11 2", "prepare 00 1", "prepare 01 1", "prepare 00 3", "prepare 01 3", "ask 01 0", "ask 01 2")
	deliver(t, x, "yes 01 0", "yes 11 0", "yes 01 2")
	for len(x.Flight()) > 0 {
		call(t, x.Lose, 0)
	}
	call(t, x.Tick, 1)
	underWay(t, x, "commit 10 0", "commit 11 0", "prepare 11 2", "ask 11 0", "ask 11 2")
	deliver(t, x, "commit 10 0", "commit 11 0", "prepare 11 2", "ask 11 0", "ask 11 2", "done 01 0")
	underWay(t, x, "done 11 0", "yes 11 2", "commit 11 0")
	call(t, x.Tick, 1)
	underWay(t, x, "done 11 0", "yes 11 2", "commit 11 0", "commit 11 0", "prepare 11 2", "ask 11 2")
}

// A crash forgets answers and acknowledgements of the shop, and only those.
func TestForgotten(t *testing.T) {
	x := trade(t, [][]int{{5, 5}, {5, 5}})
	submit(t, x, 0, move(2), 0)
	settle(t, x, 10, true)
	for len(x.Flight()) > 0 {
		call(t, x.Deliver, 0)
	}
	submit(t, x, 1, []api.Change{{Shop: 0, Item: 1, Add: 1}, {Shop: 1, Item: 1, Add: 1}}, 1)
	deliver(t, x, "prepare 10 1", "prepare 11 1", "yes 01 1")
	call(t, x.Lose, 0)
	call(t, x.Tick, 0)
	underWay(t, x, "ask 01 1")
	call(t, x.Lose, 0)

	// What shop 1 has been answered is not forgotten when shop 0 goes down.
	call(t, x.Crash, 0)
	call(t, x.Restart, 0)
	call(t, x.Tick, 0)
	underWay(t, x, "commit 00 0", "commit 01 0", "ask 01 1")
	stocks(t, x, []int{3, 5}, []int{7, 5})
	deliver(t, x, "commit 00 0", "commit 01 0", "ask 01 1", "done 00 0", "done 10 0")
	call(t, x.Tick, 0)
	call(t, x.Tick, 1)
	underWay(t, x, "ask 01 1", "prepare 11 1", "ask 11 1")
	stocks(t, x, []int{3, 5}, []int{7, 5})
	states(t, x, 0, api.Committed, api.Committed)
	decision(t, x, 1, api.Preparing)
	call(t, x.Crash, 1)
	decision(t, x, 1, api.Preparing)
	states(t, x, 1, api.Prepared, api.Prepared)
	call(t, x.Restart, 1)
	decision(t, x, 1, api.Aborted)
	decision(t, x, 0, api.Committed)
}

// What a shop is sent while it is down is lost, but what it sent is not.
func TestDown(t *testing.T) {
	x := trade(t, [][]int{{5}, {0}})
	submit(t, x, 0, move(2), 0)
	call(t, x.Crash, 1)
	deliver(t, x, "prepare 00 0", "prepare 01 0")
	underWay(t, x, "yes 00 0")
	call(t, x.Restart, 1)
	underWay(t, x, "yes 00 0")
	states(t, x, 0, api.Prepared, api.Unknown)
	call(t, x.Tick, 0)
	underWay(t, x, "yes 00 0", "prepare 00 0", "prepare 01 0", "ask 00 0")
	deliver(t, x, "yes 00 0", "prepare 00 0", "prepare 01 0", "ask 00 0")
	call(t, x.Crash, 1)
	deliver(t, x, "yes 00 0", "yes 10 0")
	decision(t, x, 0, api.Committed)
	stocks(t, x, []int{5}, []int{0})
	settle(t, x, 1000, false)
	stocks(t, x, []int{3}, []int{0})
	if !x.Up(0) || x.Up(1) {
		t.Error("shop 1 alone is down")
	}
	call(t, x.Restart, 1)
	settle(t, x, 10, true)
	stocks(t, x, []int{3}, []int{2})
}

// Settle ends when the trade is at rest, and delivers in a round what was under way when it began.
func TestSettle(t *testing.T) {
	x := trade(t, [][]int{{5}, {0}})
	settle(t, x, 0, true)
	submit(t, x, 0, move(2), 0)
	settle(t, x, 0, false)
	underWay(t, x, "prepare 00 0", "prepare 01 0")
	settle(t, x, 1, false)
	underWay(t, x, "yes 00 0", "yes 10 0", "yes 00 0", "yes 10 0")
	states(t, x, 0, api.Prepared, api.Prepared)
	settle(t, x, 1, false)
	underWay(t, x, "commit 00 0", "commit 01 0", "commit 00 0", "commit 01 0", "yes 00 0", "yes 10 0", "commit 00 0", "commit 01 0")
	decision(t, x, 0, api.Committed)
	y := x.Clone()
	settle(t, x, 1, true)
	before := shorts(x.Flight())
	settle(t, x, 1000, true)
	underWay(t, x, before...)
	stocks(t, x, []int{3}, []int{2})
	settle(t, y, 1000, true)
	underWay(t, y, before...)
}

// An order that is submitted where it changes nothing, in a trade of one shop, and of changes of all items of it.
func TestKindsOfOrders(t *testing.T) {
	x := trade(t, [][]int{{1, 2, 3, 4, 5, 6, 7, 8}})
	var changes []api.Change
	for i := range 8 {
		changes = append(changes, api.Change{Shop: 0, Item: 7 - i, Add: i - 8})
	}
	submit(t, x, 0, changes, 0)
	if found := fmt.Sprint(x.Flight()[0].Changes); found != fmt.Sprint(changes) {
		t.Errorf("the changes are %s", found)
	}
	settle(t, x, 3, true)
	decision(t, x, 0, api.Committed)
	stocks(t, x, make([]int, 8))

	// Changes are sent in the order in which they were submitted, to rising shops.
	x = trade(t, [][]int{{5, 5}, {5, 5}, {5, 5}, {5, 5}})
	changes = []api.Change{{Shop: 2, Item: 1, Add: 1}, {Shop: 0, Item: 1, Add: 2}, {Shop: 2, Item: 0, Add: 3}, {Shop: 1, Item: 1, Add: 4}, {Shop: 0, Item: 0, Add: 5}}
	submit(t, x, 3, changes, 0)
	want := "[{1 3 0 0 [{0 1 2} {0 0 5}]} {1 3 1 0 [{1 1 4}]} {1 3 2 0 [{2 1 1} {2 0 3}]}]"
	if found := fmt.Sprint(x.Flight()); found != want {
		t.Errorf("Flight() = %s, not %s", found, want)
	}
	states(t, x, 0, api.Unknown, api.Unknown, api.Unknown, api.Unknown)
	settle(t, x, 10, true)
	states(t, x, 0, api.Committed, api.Committed, api.Committed, api.Unknown)
	stocks(t, x, []int{10, 7}, []int{5, 9}, []int{8, 6}, []int{5, 5})
}
