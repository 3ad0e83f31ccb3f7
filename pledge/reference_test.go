package pledge_test

import (
	"fmt"
	"math/rand"
	"slices"
	"strings"
	"testing"

	"gamp/api"
	"gamp/pledge"
)

// model is a trade by the words of the chapter, with what each shop remembers in a place of its own.
type model struct {
	items  int
	shops  []*memory
	orders []submitted
	flight []api.Message
}

// memory is what a shop remembers: the last two maps until it goes down.
type memory struct {
	up                 bool
	stock              []int
	state, decision    map[int]int
	saidYes, knowsDone map[[2]int]bool // by order and shop
}

type submitted struct {
	first   int
	changes []api.Change
}

func newModel(stock [][]int) *model {
	m := &model{items: len(stock[0])}
	for _, l := range stock {
		m.shops = append(m.shops, &memory{true, slices.Clone(l), map[int]int{}, map[int]int{}, map[[2]int]bool{}, map[[2]int]bool{}})
	}
	return m
}

func (m *model) clone() *model {
	n := &model{items: m.items, orders: slices.Clone(m.orders), flight: slices.Clone(m.flight)}
	for _, s := range m.shops {
		n.shops = append(n.shops, &memory{s.up, slices.Clone(s.stock), copied(s.state), copied(s.decision), copied(s.saidYes), copied(s.knowsDone)})
	}
	return n
}

func copied[K comparable, V any](from map[K]V) map[K]V {
	to := map[K]V{}
	for k, v := range from {
		to[k] = v
	}
	return to
}

// shopsOf returns the shops of an order, rising.
func (m *model) shopsOf(order int) []int {
	var all []int
	for s := range m.shops {
		if len(m.changesAt(order, s)) > 0 {
			all = append(all, s)
		}
	}
	return all
}

func (m *model) changesAt(order, shop int) []api.Change {
	var all []api.Change
	for _, c := range m.orders[order].changes {
		if c.Shop == shop {
			all = append(all, c)
		}
	}
	return all
}

func (m *model) valid(changes []api.Change) bool {
	seen := map[[2]int]bool{}
	for _, c := range changes {
		if c.Shop < 0 || c.Shop >= len(m.shops) || c.Item < 0 || c.Item >= m.items || c.Add == 0 || c.Add > 10000 || c.Add < -10000 || seen[[2]int{c.Shop, c.Item}] {
			return false
		}
		seen[[2]int{c.Shop, c.Item}] = true
	}
	return len(changes) >= 1 && len(changes) <= 8
}

func (m *model) send(kind, from, to, order int) {
	x := api.Message{Kind: kind, From: from, To: to, Order: order}
	if kind == api.Prepare {
		x.Changes = m.changesAt(order, to)
	}
	m.flight = append(m.flight, x)
}

// limit loses the messages that are too many.
func (m *model) limit() {
	m.flight = m.flight[:min(len(m.flight), 400)]
}

func (m *model) submit(first int, changes []api.Change) (int, api.Errno) {
	if first < 0 || first >= len(m.shops) || !m.valid(changes) {
		return 0, api.ErrArg
	}
	if !m.shops[first].up {
		return 0, api.ErrDown
	}
	if len(m.orders) == 200 {
		return 0, api.ErrFull
	}
	n := len(m.orders)
	m.orders = append(m.orders, submitted{first, slices.Clone(changes)})
	m.shops[first].decision[n] = api.Preparing
	for _, s := range m.shopsOf(n) {
		m.shops[s].state[n] = api.Unknown
		m.send(api.Prepare, first, s, n)
	}
	m.limit()
	return n, api.OK
}

func (m *model) held(shop, item int) bool {
	for n, state := range m.shops[shop].state {
		for _, c := range m.changesAt(n, shop) {
			if state == api.Prepared && c.Item == item {
				return true
			}
		}
	}
	return false
}

// refuses reports whether a shop cannot do its part of an order.
func (m *model) refuses(shop int, changes []api.Change) bool {
	for _, c := range changes {
		after := m.shops[shop].stock[c.Item] + c.Add
		if m.held(shop, c.Item) || after < 0 || after > 10000 {
			return true
		}
	}
	return false
}

// receive is what a shop that is up does with a message.
func (m *model) receive(x api.Message) {
	s, n, back := m.shops[x.To], x.Order, x.From
	switch x.Kind {
	case api.Prepare:
		if s.state[n] == api.Unknown {
			if m.refuses(x.To, x.Changes) {
				s.state[n] = api.Aborted
				m.send(api.No, x.To, back, n)
			} else {
				s.state[n] = api.Prepared
				m.send(api.Yes, x.To, back, n)
			}
		} else if s.state[n] == api.Prepared || s.state[n] == api.Committed {
			m.send(api.Yes, x.To, back, n)
		} else {
			m.send(api.No, x.To, back, n)
		}
	case api.Yes:
		switch s.decision[n] {
		case api.Preparing:
			s.saidYes[[2]int{n, x.From}] = true
			all := true
			for _, other := range m.shopsOf(n) {
				all = all && s.saidYes[[2]int{n, other}]
			}
			if all {
				s.decision[n] = api.Committed
				for _, other := range m.shopsOf(n) {
					m.send(api.Commit, x.To, other, n)
				}
			}
		case api.Committed:
			m.send(api.Commit, x.To, back, n)
		case api.Aborted:
			m.send(api.Abort, x.To, back, n)
		}
	case api.No:
		if s.decision[n] == api.Preparing {
			s.decision[n] = api.Aborted
			for _, other := range m.shopsOf(n) {
				m.send(api.Abort, x.To, other, n)
			}
		}
	default:
		m.receiveVerdict(x)
	}
	m.limit()
}

// receiveVerdict is receive for the other kinds.
func (m *model) receiveVerdict(x api.Message) {
	s, n, back := m.shops[x.To], x.Order, x.From
	switch x.Kind {
	case api.Commit:
		if s.state[n] == api.Prepared {
			for _, c := range m.changesAt(n, x.To) {
				s.stock[c.Item] += c.Add
			}
			s.state[n] = api.Committed
		}
		m.send(api.Done, x.To, back, n)
	case api.Abort:
		if s.state[n] == api.Unknown || s.state[n] == api.Prepared {
			s.state[n] = api.Aborted
		}
		m.send(api.Done, x.To, back, n)
	case api.Done:
		s.knowsDone[[2]int{n, x.From}] = true
	case api.Ask:
		if s.decision[n] == api.Committed {
			m.send(api.Commit, x.To, back, n)
		}
		if s.decision[n] == api.Aborted {
			m.send(api.Abort, x.To, back, n)
		}
	default:
		panic("a message of no kind")
	}
}

func (m *model) lose(i int) api.Errno {
	if i < 0 || i >= len(m.flight) {
		return api.ErrArg
	}
	m.flight = append(slices.Clone(m.flight[:i]), m.flight[i+1:]...)
	return api.OK
}

func (m *model) deliver(i int) api.Errno {
	if i < 0 || i >= len(m.flight) {
		return api.ErrArg
	}
	x := m.flight[i]
	m.lose(i)
	if m.shops[x.To].up {
		m.receive(x)
	}
	return api.OK
}

func (m *model) copy(i int) api.Errno {
	if i < 0 || i >= len(m.flight) {
		return api.ErrArg
	}
	if len(m.flight) == 400 {
		return api.ErrFull
	}
	m.flight = append(m.flight, m.flight[i])
	return api.OK
}

func (m *model) crash(shop int) api.Errno {
	if shop < 0 || shop >= len(m.shops) {
		return api.ErrArg
	}
	s := m.shops[shop]
	if !s.up {
		return api.ErrDown
	}
	s.up = false
	s.saidYes, s.knowsDone = map[[2]int]bool{}, map[[2]int]bool{}
	return api.OK
}

func (m *model) restart(shop int) api.Errno {
	if shop < 0 || shop >= len(m.shops) {
		return api.ErrArg
	}
	s := m.shops[shop]
	if s.up {
		return api.ErrState
	}
	s.up = true
	for n, decision := range s.decision {
		if decision == api.Preparing {
			s.decision[n] = api.Aborted
		}
	}
	return api.OK
}

func (m *model) tick(shop int) api.Errno {
	if shop < 0 || shop >= len(m.shops) {
		return api.ErrArg
	}
	s := m.shops[shop]
	if !s.up {
		return api.ErrDown
	}
	for n := range m.orders {
		if m.orders[n].first != shop {
			continue
		}
		for _, other := range m.shopsOf(n) {
			at := [2]int{n, other}
			switch {
			case s.decision[n] == api.Preparing && !s.saidYes[at]:
				m.send(api.Prepare, shop, other, n)
			case s.decision[n] == api.Committed && !s.knowsDone[at]:
				m.send(api.Commit, shop, other, n)
			case s.decision[n] == api.Aborted && !s.knowsDone[at]:
				m.send(api.Abort, shop, other, n)
			}
		}
	}
	for n := range m.orders {
		if s.state[n] == api.Prepared {
			m.send(api.Ask, shop, m.orders[n].first, n)
		}
	}
	m.limit()
	return api.OK
}

func (m *model) atRest() bool {
	for n, o := range m.orders {
		decision := m.shops[o.first].decision[n]
		if decision == api.Preparing {
			return false
		}
		for _, s := range m.shopsOf(n) {
			if m.shops[s].state[n] == api.Prepared || m.shops[s].state[n] != decision {
				return false
			}
		}
	}
	return true
}

func (m *model) settle(rounds int) (bool, api.Errno) {
	if rounds < 0 || rounds > 1000 {
		return false, api.ErrArg
	}
	for range rounds {
		if m.atRest() {
			break
		}
		for s := range m.shops {
			m.tick(s)
		}
		for range len(m.flight) {
			m.deliver(0)
		}
	}
	return m.atRest(), api.OK
}

// everything returns what a trade shows, as text.
func (m *model) everything() string {
	var text strings.Builder
	fmt.Fprintln(&text, "messages", m.flight)
	for s, x := range m.shops {
		fmt.Fprintln(&text, "shop", s, x.up, x.stock, api.OK)
		for n := range m.orders {
			fmt.Fprintln(&text, x.state[n], api.OK)
		}
	}
	fmt.Fprintln(&text, "orders", len(m.orders))
	for n, o := range m.orders {
		fmt.Fprintln(&text, m.shops[o.first].decision[n], api.OK)
	}
	return text.String()
}

// everything returns what a trade shows, as text.
func everything(x *pledge.Trade, shops int) string {
	var text strings.Builder
	fmt.Fprintln(&text, "messages", x.Flight())
	for s := range shops {
		stock, e := x.Stock(s)
		fmt.Fprintln(&text, "shop", s, x.Up(s), stock, e)
		for n := range x.Orders() {
			state, e := x.State(s, n)
			fmt.Fprintln(&text, state, e)
		}
	}
	fmt.Fprintln(&text, "orders", x.Orders())
	for n := range x.Orders() {
		decision, e := x.Decision(n)
		fmt.Fprintln(&text, decision, e)
	}
	return text.String()
}

// secrets returns what a trade shows, and what it has noted, which is seen in what the shops send when nothing else is under way.
func secrets(x *pledge.Trade, shops int) string {
	text := everything(x, shops)
	y := x.Clone()
	for s := range shops {
		for len(y.Flight()) > 0 {
			y.Lose(len(y.Flight()) - 1)
		}
		y.Tick(s)
		text += fmt.Sprintln("ticks", s, y.Flight())
	}
	return text
}

// secrets is that of the model.
func (m *model) secrets() string {
	text := m.everything()
	n := m.clone()
	for s := range m.shops {
		n.flight = nil
		n.tick(s)
		text += fmt.Sprintln("ticks", s, n.flight)
	}
	return text
}

// step is a call of a trade.
type step struct {
	what    string
	i       int
	changes []api.Change
}

// do calls a model.
func (m *model) do(s step) (int, api.Errno) {
	switch s.what {
	case "submit":
		return m.submit(s.i, s.changes)
	case "settle":
		ok, e := m.settle(s.i)
		return number(ok), e
	}
	return 0, map[string]func(int) api.Errno{"deliver": m.deliver, "lose": m.lose, "copy": m.copy, "crash": m.crash, "restart": m.restart, "tick": m.tick}[s.what](s.i)
}

// do calls a trade.
func do(x *pledge.Trade, s step) (int, api.Errno) {
	switch s.what {
	case "submit":
		return x.Submit(s.i, s.changes)
	case "settle":
		ok, e := x.Settle(s.i)
		return number(ok), e
	}
	return 0, map[string]func(int) api.Errno{"deliver": x.Deliver, "lose": x.Lose, "copy": x.Copy, "crash": x.Crash, "restart": x.Restart, "tick": x.Tick}[s.what](s.i)
}

func number(b bool) int {
	if b {
		return 1
	}
	return 0
}

// both is a trade and its model.
type both struct {
	x     *pledge.Trade
	m     *model
	past  []step
	first [][]int
}

func newBoth(t *testing.T, stock [][]int) *both {
	t.Helper()
	return &both{trade(t, stock), newModel(stock), nil, stock}
}

func trade(t *testing.T, stock [][]int) *pledge.Trade {
	t.Helper()
	x, e := pledge.New(stock)
	if e != api.OK {
		t.Fatalf("New(%v): %d", stock, e)
	}
	return x
}

// do calls both, and fails if they do not agree.
func (b *both) do(t *testing.T, s step) (int, api.Errno) {
	t.Helper()
	b.past = append(b.past, s)
	n, e := do(b.x, s)
	want, wantError := b.m.do(s)
	if n != want || e != wantError {
		t.Fatalf("%v after %v of %v: %d, %d, not %d, %d", s, b.past, b.first, n, e, want, wantError)
	}
	if found, want := everything(b.x, len(b.first)), b.m.everything(); found != want {
		t.Fatalf("%v after %v of %v:\n%s\nnot\n%s", s, b.past, b.first, found, want)
	}
	return n, e
}

// someStock is that of a random trade.
func someStock(r *rand.Rand) [][]int {
	stock := make([][]int, 1+r.Intn(5))
	items := 1 + r.Intn(3)
	if r.Intn(4) == 0 {
		items = 1 + r.Intn(8)
	}
	for s := range stock {
		for range items {
			stock[s] = append(stock[s], []int{0, 1, 5, 10, 5000, 9995, 9999, 10000}[r.Intn(8)])
		}
	}
	return stock
}

// someChanges are valid ones.
func someChanges(r *rand.Rand, shops, items int) []api.Change {
	var places []api.Change
	for s := range shops {
		for i := range items {
			places = append(places, api.Change{Shop: s, Item: i, Add: []int{1, -1, 2, -2, 5, -5, 100, -100, 10000, -10000}[min(r.Intn(20), r.Intn(20))%10]})
		}
	}
	r.Shuffle(len(places), func(i, j int) { places[i], places[j] = places[j], places[i] })
	return places[:1+r.Intn(min(8, len(places)))]
}

// someStep is a random one, which is refused now and then.
func (b *both) someStep(r *rand.Rand) step {
	shops, under := len(b.first), len(b.x.Flight())
	shop := r.Intn(shops)
	switch r.Intn(40) {
	case 0, 1, 2:
		return step{"submit", shop, someChanges(r, shops, len(b.first[0]))}
	case 3, 4, 5:
		return step{"copy", r.Intn(under + 1), nil}
	case 6, 7, 8:
		return step{"lose", r.Intn(under + 1), nil}
	case 9, 10:
		return step{"crash", shop, nil}
	case 11, 12, 13:
		return step{"restart", shop, nil}
	case 14, 15, 16, 17:
		return step{"tick", shop, nil}
	case 18:
		return step{"settle", r.Intn(3), nil}
	case 19:
		changes := someChanges(r, shops+1, len(b.first[0])+1)
		return step{"submit", r.Intn(shops+2) - 1, changes}
	case 20:
		return step{[]string{"deliver", "lose", "copy"}[r.Intn(3)], []int{-1, under, under + 1}[r.Intn(3)], nil}
	case 21:
		return step{[]string{"crash", "restart", "tick", "settle"}[r.Intn(4)], -1, nil}
	}
	if r.Intn(3) == 0 {
		return step{"deliver", r.Intn(under + 1), nil}
	}
	return step{"deliver", 0, nil}
}
