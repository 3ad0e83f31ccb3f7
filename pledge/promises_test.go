package pledge_test

import (
	"math/rand"
	"slices"
	"testing"

	"gamp/api"
	"gamp/pledge"
)

// holds fails unless K1, K2 and K5 hold.
func holds(t *testing.T, x *pledge.Trade, first [][]int, orders []submitted) {
	t.Helper()
	for n := range orders {
		checkAtomic(t, x, len(first), n)
	}
	for s, l := range first {
		checkStock(t, x, s, l, orders)
		checkHeld(t, x, s, orders)
	}
}

// K1 and P5.
func checkAtomic(t *testing.T, x *pledge.Trade, shops, order int) {
	t.Helper()
	decision, _ := x.Decision(order)
	found := map[int]bool{}
	for s := range shops {
		state, _ := x.State(s, order)
		found[state] = true
	}
	if found[api.Committed] && (found[api.Aborted] || decision != api.Committed) {
		t.Fatalf("K1: order %d has the states %v and the decision %d", order, found, decision)
	}
}

// K2.
func checkStock(t *testing.T, x *pledge.Trade, shop int, first []int, orders []submitted) {
	t.Helper()
	want := slices.Clone(first)
	for n, o := range orders {
		state, _ := x.State(shop, n)
		for _, c := range o.changes {
			if c.Shop == shop && state == api.Committed {
				want[c.Item] += c.Add
			}
		}
	}
	found, e := x.Stock(shop)
	if e != api.OK || !slices.Equal(found, want) || slices.Min(found) < 0 || slices.Max(found) > api.MaxStock {
		t.Fatalf("K2: the stock of shop %d is %v, %d, not %v", shop, found, e, want)
	}
}

// K5.
func checkHeld(t *testing.T, x *pledge.Trade, shop int, orders []submitted) {
	t.Helper()
	by := map[int]int{}
	for n, o := range orders {
		state, _ := x.State(shop, n)
		for _, c := range o.changes {
			if c.Shop != shop || state != api.Prepared {
				continue
			}
			if other, held := by[c.Item]; held {
				t.Fatalf("K5: the orders %d and %d hold the item %d of shop %d", other, n, c.Item, shop)
			}
			by[c.Item] = n
		}
	}
}

// decided returns all states and decisions.
func decided(x *pledge.Trade, shops int) []int {
	var all []int
	for n := range x.Orders() {
		d, _ := x.Decision(n)
		all = append(all, d)
		for s := range shops {
			state, _ := x.State(s, n)
			all = append(all, state)
		}
	}
	return all
}

// stays fails unless K3 holds.
func stays(t *testing.T, before, after []int) {
	t.Helper()
	for i, was := range before {
		if (was == api.Committed || was == api.Aborted) && after[i] != was {
			t.Fatalf("K3: %v became %v", before, after)
		}
	}
}

// rests fails unless K4 holds of what becomes of a trade when all shops are up.
func rests(t *testing.T, x *pledge.Trade, shops int) {
	t.Helper()
	y := x.Clone()
	for s := range shops {
		y.Restart(s)
	}
	if found, e := y.Settle(10); !found || e != api.OK {
		t.Fatalf("K4: Settle(10) = %t, %d, of\n%s", found, e, everything(x, shops))
	}
	for n := range y.Orders() {
		d, _ := y.Decision(n)
		for s := range shops {
			if state, _ := y.State(s, n); state == api.Prepared || d == api.Preparing || state != api.Unknown && state != d {
				t.Fatalf("K4: no rest:\n%s", everything(y, shops))
			}
		}
	}
}

// K1 to K5 in all that can become of small trades.
func TestPromisesOfAllFutures(t *testing.T) {
	for _, g := range games() {
		explore(t, g.stock, g.orders, g.most, func(m *model, x *pledge.Trade) {
			holds(t, x, g.stock, g.orders)
			rests(t, x, len(g.stock))
			before := decided(x, len(g.stock))
			for _, s := range m.steps(g.most) {
				y := x.Clone()
				do(y, s)
				stays(t, before, decided(y, len(g.stock)))
			}
		})
	}
}

// walk goes on by random steps, and fails unless K1, K2, K3 and K5 hold after each one.
func walk(t *testing.T, r *rand.Rand, b *both, steps, most int, next func(*rand.Rand, *both) step) {
	t.Helper()
	for range steps {
		before := decided(b.x, len(b.first))
		s := next(r, b)
		if s.what == "submit" && len(b.m.orders) == most {
			continue
		}
		b.do(t, s)
		holds(t, b.x, b.first, b.m.orders)
		stays(t, before, decided(b.x, len(b.first)))
	}
}

func random(r *rand.Rand, b *both) step {
	return b.someStep(r)
}

// K1 to K5 of random trades.
func TestPromisesOfWalks(t *testing.T) {
	r := rand.New(rand.NewSource(94))
	for range 500 {
		b := newBoth(t, someStock(r))
		walk(t, r, b, r.Intn(150), 8, random)
		rests(t, b.x, len(b.first))
	}
	for range 10 {
		b := newBoth(t, someStock(r))
		walk(t, r, b, 500, 8, crowding)
		rests(t, b.x, len(b.first))
	}
	for range 20 {
		b := newBoth(t, someStock(r))
		walk(t, r, b, 400, 200, random)
	}
}

// K4 where messages of one kind leave no room for others.
func TestRestOfCrowds(t *testing.T) {
	r := rand.New(rand.NewSource(95))
	seen := map[int]int{}
	for range 1000 {
		b := newBoth(t, someStock(r))
		walk(t, r, b, 5+r.Intn(60), 8, random)
		flight := b.x.Flight()
		if len(flight) == 0 {
			continue
		}
		i := r.Intn(len(flight))
		for b.x.Copy(i) == api.OK {
		}
		// The ones that were under way before are sometimes lost, so that all are of the kind.
		for range (len(flight) - 1) * r.Intn(2) {
			call(t, b.x.Lose, 0)
		}
		seen[flight[i].Kind]++
		rests(t, b.x, len(b.first))
	}
	if len(seen) != 7 {
		t.Errorf("only messages of the kinds %v are copied", seen)
	}
}

// K6: whatever is left to be sent again, an order that fits is done when nothing is held or under way.
func TestAlone(t *testing.T) {
	r := rand.New(rand.NewSource(96))
	unfinished := 0
	for range 1500 {
		b := newBoth(t, someStock(r))
		walk(t, r, b, r.Intn(60), 7, random)
		for s := range b.first {
			b.x.Restart(s)
		}
		for range r.Intn(4) {
			b.x.Settle(1)
		}
		free(b.x)
		if slices.Contains(decided(b.x, len(b.first)), api.Prepared) {
			continue
		}
		if slices.Contains(decided(b.x, len(b.first)), api.Preparing) {
			unfinished++
		}
		changes := fitting(r, b)
		submit(t, b.x, r.Intn(len(b.first)), changes, len(b.m.orders))
		b.x.Settle(10)
		decision(t, b.x, len(b.m.orders), api.Committed)
		for _, c := range changes {
			if state, _ := b.x.State(c.Shop, len(b.m.orders)); state != api.Committed {
				t.Fatalf("K6: the state of %d is %d, after %v of %v", c.Shop, state, b.past, b.first)
			}
		}
	}
	if unfinished < 30 {
		t.Errorf("only %d trades had orders that were not decided", unfinished)
	}
}

// free loses all messages.
func free(x *pledge.Trade) {
	for len(x.Flight()) > 0 {
		x.Lose(0)
	}
}

// fitting returns changes that fit.
func fitting(r *rand.Rand, b *both) []api.Change {
	changes := someChanges(r, len(b.first), len(b.first[0]))
	for i, c := range changes {
		stock, _ := b.x.Stock(c.Shop)
		had := stock[c.Item]
		for add := c.Add; ; add = r.Intn(api.MaxStock+1) - had {
			if add != 0 && had+add >= 0 && had+add <= api.MaxStock {
				changes[i].Add = add
				break
			}
		}
	}
	return changes
}
