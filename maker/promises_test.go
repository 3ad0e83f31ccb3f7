package maker_test

import (
	"fmt"
	"math/rand"
	"strings"
	"testing"

	"gamp/api"
	"gamp/maker"
)

// H1: replies of the functions for lists that say more than a few numbers, with what the functions say about them beside it.
func TestPackages(t *testing.T) {
	for seed := range int64(30) {
		r := rand.New(rand.NewSource(seed))
		m, x := maker.New(), &model{}
		for _, scene := range []func(*rand.Rand) []string{someNetwork, someSolid, someGraph, someGame, somePeople, someTrade} {
			for _, line := range scene(r) {
				if found, want := m.Line(line), x.line(line); found != want || strings.HasPrefix(found, "!") && line != "stiff 0 1" {
					t.Errorf("after %q: %q = %q, not %q", x.past, line, found, want)
				}
			}
		}
	}
}

// H2: without the lines that reply with an error, all others have the same replies.
func TestRefused(t *testing.T) {
	refusals := 0
	for n, rows := range subjects() {
		for seed := range int64(20) {
			r := rand.New(rand.NewSource(1000*int64(n) + seed))
			m, without := maker.New(), maker.New()
			for _, line := range pieces(r, rows, 60) {
				reply := m.Line(line)
				if strings.HasPrefix(reply, "!") {
					refusals++
				} else if found := without.Line(line); found != reply {
					t.Fatalf("%q: %q, not %q", line, found, reply)
				}
			}
			if found, want := shown(m.Line), shown(without.Line); found != want {
				t.Fatalf("%s\nnot\n%s", found, want)
			}
		}
	}
	if refusals < 1000 {
		t.Errorf("only %d refusals", refusals)
	}
}

// H3: a line that is tried has its own reply, and without those that are tried all others have the same replies.
func TestTried(t *testing.T) {
	for n, rows := range subjects() {
		for seed := range int64(20) {
			r := rand.New(rand.NewSource(1000*int64(n) + seed))
			m, without := maker.New(), maker.New()
			for _, line := range pieces(r, rows, 60) {
				line = strings.Split(line, "\n")[0]
				if line == "" || strings.Split(line, " ")[0] == "try" {
					continue
				}
				tried, reply, want := m.Line("try "+line), m.Line(line), without.Line(line)
				if tried != want || reply != want {
					t.Fatalf("%q: %q, %q and %q", line, tried, reply, want)
				}
				m.Line("try " + someLine(r, rows))
			}
			if found, want := shown(m.Line), shown(without.Line); found != want {
				t.Fatalf("%s\nnot\n%s", found, want)
			}
		}
	}
}

// ledger is an order as it was submitted, and the stock of which a trade was made.
type ledger struct {
	shops, items int
	stock        []int
	orders       [][]int // triples behind one another
}

// check compares the stock with the orders that are committed, and the states of each order with each other.
func (l ledger) check(t *testing.T, m *maker.Maker) {
	t.Helper()
	want := append([]int{}, l.stock...)
	for o, order := range l.orders {
		committed, aborted := false, false
		for s := range l.shops {
			var state, decision int
			fmt.Sscanf(m.Line(fmt.Sprint("state ", s, " ", o)), "state %d\ndecision %d\n", &state, &decision)
			committed = committed || state == api.Committed
			aborted = aborted || state == api.Aborted
			for i := 0; i < len(order) && state == api.Committed; i += 3 {
				if order[i] == s {
					want[s*l.items+order[i+1]] += order[i+2]
				}
			}
			if state == api.Committed && decision != api.Committed {
				t.Errorf("order %d is done at %d, and its decision is %d", o, s, decision)
			}
		}
		if committed && aborted {
			t.Errorf("order %d is done and not done", o)
		}
	}
	for s := range l.shops {
		found, line := m.Line(fmt.Sprint("stock ", s)), listed("stock", want[s*l.items:(s+1)*l.items])
		if found != line {
			t.Errorf("stock of %d: %q, not %q", s, found, line)
		}
	}
}

// H4: whatever lines there are, an order is done everywhere or nowhere, and the goods change by orders and shops alone.
func TestAtomic(t *testing.T) {
	rows := rowsOf("order order deliver deliver drop copy crash restart tick settle")
	for range 5 {
		rows = append(rows, "deliver I")
	}
	done := 0
	for seed := range int64(60) {
		r := rand.New(rand.NewSource(seed))
		m := maker.New()
		l := ledger{2, 1, []int{10, 10}, nil}
		for step := range 150 {
			line := someLine(r, rows)
			if r.Intn(5) == 0 {
				line = someLine(r, table)
			}
			if step == 40 && seed%2 == 0 {
				line = "shops 3 5 4 3 2 1 0"
			}
			reply := m.Line(line)
			numbers := listOf(strings.Split(line, "\n")[0])
			switch {
			case strings.HasPrefix(reply, "!") || strings.HasPrefix(line, "try"):
			case strings.HasPrefix(line, "shops "):
				l = ledger{numbers[0], (len(numbers) - 1) / numbers[0], numbers[1:], nil}
			case strings.HasPrefix(line, "order "):
				l.orders = append(l.orders, numbers[1:])
			}
			l.check(t, m)
			if t.Failed() {
				t.Fatalf("after %d lines: %q", step+1, line)
			}
		}
		for s := range l.shops {
			m.Line(fmt.Sprint("restart ", s))
		}
		if len(l.orders) <= 8 && m.Line("settle 10") != "yes\n" {
			t.Errorf("the trade %d does not come to rest", seed)
		}
		l.check(t, m)
		for o := range l.orders {
			if strings.HasSuffix(m.Line(fmt.Sprint("state 0 ", o)), "decision 3\n") {
				done++
			}
		}
	}
	if done < 40 {
		t.Errorf("only %d orders were done", done)
	}
}

// listOf returns the numbers behind the first word of a line.
func listOf(line string) []int {
	var list []int
	for _, word := range strings.Split(line, " ")[1:] {
		var n int
		fmt.Sscan(word, &n)
		list = append(list, n)
	}
	return list
}
