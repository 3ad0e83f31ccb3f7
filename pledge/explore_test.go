package pledge_test

import (
	"testing"

	"gamp/api"
	"gamp/pledge"
)

// key tells the states of a model apart.
func (m *model) key() string {
	var key []byte
	for _, x := range m.flight {
		key = append(key, byte(x.Kind), byte(x.From), byte(x.To), byte(x.Order))
	}
	for _, s := range m.shops {
		key = append(key, 255, byte(number(s.up)))
		for _, n := range s.stock {
			key = append(key, byte(n), byte(n>>8))
		}
		for n := range m.orders {
			key = append(key, byte(s.state[n]), byte(s.decision[n]))
			for other := range m.shops {
				key = append(key, byte(number(s.saidYes[[2]int{n, other}])), byte(number(s.knowsDone[[2]int{n, other}])))
			}
		}
	}
	return string(key)
}

// steps are all that can happen to a model, where at most some messages are under way.
func (m *model) steps(most int) []step {
	var all []step
	for i := range m.flight {
		all = append(all, step{"deliver", i, nil}, step{"lose", i, nil})
		if len(m.flight) < most {
			all = append(all, step{"copy", i, nil})
		}
	}
	for s, x := range m.shops {
		if !x.up {
			all = append(all, step{"restart", s, nil})
			continue
		}
		all = append(all, step{"crash", s, nil})
		if len(m.flight) < most {
			all = append(all, step{"tick", s, nil})
		}
	}
	return all
}

// explore visits all that can become of a trade.
func explore(t *testing.T, stock [][]int, orders []submitted, most int, visit func(m *model, x *pledge.Trade)) int {
	t.Helper()
	b := newBoth(t, stock)
	for _, o := range orders {
		b.do(t, step{"submit", o.first, o.changes})
	}
	type place struct {
		m *model
		x *pledge.Trade
	}
	seen := map[string]bool{b.m.key(): true}
	work := []place{{b.m, b.x}}
	for len(work) > 0 {
		p := work[len(work)-1]
		work = work[:len(work)-1]
		visit(p.m, p.x)
		for _, s := range p.m.steps(most) {
			m := p.m.clone()
			if _, e := m.do(s); e != api.OK {
				t.Fatalf("%v of the model: %d", s, e)
			}
			if key := m.key(); !seen[key] {
				seen[key] = true
				x := p.x.Clone()
				if _, e := do(x, s); e != api.OK {
					t.Fatalf("%v: %d", s, e)
				}
				work = append(work, place{m, x})
			}
		}
	}
	return len(seen)
}

// games are small trades with orders whose futures are all visited, and the most messages that are copied or sent by ticks.
func games() []struct {
	stock  [][]int
	orders []submitted
	most   int
} {
	move := submitted{0, []api.Change{{Shop: 0, Item: 0, Add: -1}, {Shop: 1, Item: 0, Add: 1}}}
	take := submitted{1, []api.Change{{Shop: 0, Item: 0, Add: -1}}}
	give := submitted{1, []api.Change{{Shop: 0, Item: 0, Add: 10000}, {Shop: 1, Item: 0, Add: 1}}}
	return []struct {
		stock  [][]int
		orders []submitted
		most   int
	}{
		{[][]int{{1}, {0}}, []submitted{move}, 2},
		{[][]int{{0}, {0}}, []submitted{move}, 2},
		{[][]int{{1}, {0}}, []submitted{take}, 3},
		{[][]int{{1}, {0}}, []submitted{give}, 2},
		{[][]int{{1}, {0}}, []submitted{move, take}, 1},
		{[][]int{{2}, {0}}, []submitted{take, take}, 1},
		{[][]int{{5}, {5}, {5}}, []submitted{{2, move.changes}}, 1},
	}
}

// In all that can become of small trades, the trade shows what the model shows, also of what it has noted.
func TestAllFutures(t *testing.T) {
	for i, g := range games() {
		explore(t, g.stock, g.orders, g.most, func(m *model, x *pledge.Trade) {
			if found, want := everything(x, len(g.stock)), m.everything(); found != want {
				t.Fatalf("game %d:\n%s\nnot\n%s", i, found, want)
			}
			if found, want := secrets(x, len(g.stock)), m.secrets(); found != want {
				t.Fatalf("game %d:\n%s\nnot\n%s", i, found, want)
			}
		})
	}
}
