package pledge_test

import (
	"fmt"
	"math/rand"
	"slices"
	"sync"
	"testing"

	"gamp/api"
	"gamp/pledge"
)

// story is a random trade with what is done with it.
func story(t *testing.T, seed int64) *both {
	t.Helper()
	r := rand.New(rand.NewSource(seed))
	b := newBoth(t, someStock(r))
	for range 100 {
		b.do(t, b.someStep(r))
	}
	return b
}

// again does the same once more, and returns all that it shows on the way.
func (b *both) again() string {
	x, _ := pledge.New(b.first)
	text := ""
	for _, s := range b.past {
		n, e := do(x, s)
		text += fmt.Sprintln(n, e) + everything(x, len(b.first))
	}
	return text + secrets(x, len(b.first))
}

// R6: the same calls give the same results, whatever is done with other trades between or at the same time.
func TestSameAgain(t *testing.T) {
	var group sync.WaitGroup
	for seed := range int64(30) {
		b := story(t, 100+seed)
		want := b.again()
		for range 4 {
			group.Go(func() {
				if found := b.again(); found != want {
					t.Errorf("%s\nand then\n%s", want, found)
				}
			})
		}
	}
	group.Wait()
}

// R5: arguments are neither changed nor kept.
func TestArgumentsStay(t *testing.T) {
	stock := [][]int{make([]int, 2, 9), make([]int, 2, 9)}
	stock[0][0], stock[1][1] = 5, 7
	x := trade(t, stock)
	for _, l := range stock {
		if !slices.Equal(l[:9], []int{l[0], l[1], 0, 0, 0, 0, 0, 0, 0}) {
			t.Errorf("New writes %v", l[:9])
		}
		scribble(l, 3333)
	}
	stock[0] = nil
	stocks(t, x, []int{5, 0}, []int{0, 7})

	changes := make([]api.Change, 4, 9)
	copy(changes, []api.Change{{Shop: 1, Item: 1, Add: -1}, {Shop: 0, Item: 1, Add: 2}, {Shop: 1, Item: 0, Add: 3}, {Shop: 0, Item: 0, Add: -4}})
	before := slices.Clone(changes[:9])
	submit(t, x, 0, changes, 0)
	if !slices.Equal(changes[:9], before) {
		t.Errorf("Submit writes %v", changes[:9])
	}
	for i := range changes[:9] {
		changes[:9][i] = api.Change{Shop: 1, Item: 0, Add: 99}
	}
	if found := fmt.Sprint(x.Flight()); found != "[{1 0 0 0 [{0 1 2} {0 0 -4}]} {1 0 1 0 [{1 1 -1} {1 0 3}]}]" {
		t.Errorf("Flight() = %s", found)
	}
	settle(t, x, 10, true)
	stocks(t, x, []int{1, 2}, []int{3, 6})
}

// scribble writes over all memory of a list.
func scribble(list []int, with int) {
	for i := range list[:cap(list)] {
		list[:cap(list)][i] = with
	}
}

// R5: results are new memory, also the changes of each message, and of copies of it.
func TestResultsAreNew(t *testing.T) {
	for seed := range int64(60) {
		b := story(t, 200+seed)
		for i := range min(len(b.x.Flight()), 3) {
			b.x.Copy(i)
		}
		before := secrets(b.x, len(b.first))
		for s := range b.first {
			stock, _ := b.x.Stock(s)
			scribble(stock, 4444)
		}
		flight := b.x.Flight()
		for i, m := range flight {
			for j := range m.Changes[:cap(m.Changes)] {
				m.Changes[:cap(m.Changes)][j] = api.Change{Shop: i, Item: i, Add: i}
			}
		}
		for i, m := range flight {
			for _, c := range m.Changes {
				if c.Add != i {
					t.Errorf("changes share memory: %v", flight)
				}
			}
		}
		for i := range flight[:cap(flight)] {
			flight[:cap(flight)][i] = api.Message{Kind: 9, From: 9, To: 9, Order: 9}
		}
		if after := secrets(b.x, len(b.first)); after != before {
			t.Errorf("%s\nbecame\n%s", before, after)
		}
	}
}

// A clone shows and does the same, and neither of the two changes the other.
func TestClone(t *testing.T) {
	for seed := range int64(80) {
		b := story(t, 300+seed)
		r := rand.New(rand.NewSource(seed))
		x, y := b.x, b.x.Clone()
		if x == y || secrets(x, len(b.first)) != secrets(y, len(b.first)) {
			t.Fatalf("%s\nhas the clone\n%s", secrets(x, len(b.first)), secrets(y, len(b.first)))
		}
		before := secrets(x, len(b.first))
		m := b.m.clone()
		for range 60 {
			b.do(t, b.someStep(r))
		}
		if after := secrets(y, len(b.first)); after != before {
			t.Fatalf("the clone\n%s\nbecame\n%s", before, after)
		}
		before = secrets(x, len(b.first))
		c := &both{y, m, b.past, b.first}
		for range 60 {
			c.do(t, c.someStep(r))
		}
		if after := secrets(x, len(b.first)); after != before {
			t.Fatalf("the trade\n%s\nbecame\n%s", before, after)
		}
	}
}

// A clone does not need the trade that it comes from, and has clones of its own.
func TestCloneOfClone(t *testing.T) {
	x := busy(t)
	want := secrets(x, 3)
	y := x.Clone().Clone()
	*x = pledge.Trade{}
	if found := secrets(y, 3); found != want {
		t.Errorf("%s\nnot\n%s", found, want)
	}
	call(t, y.Restart, 2)
	settle(t, y, 10, true)
	stocks(t, y, []int{6, 6}, []int{6, 8}, []int{9, 11})
}

// What only shows changes nothing.
func TestShowing(t *testing.T) {
	for seed := range int64(20) {
		b := story(t, 400+seed)
		before := secrets(b.x, len(b.first))
		for range 3 {
			b.x.Settle(0)
			b.x.Clone()
			everything(b.x, 6)
		}
		if after := secrets(b.x, len(b.first)); after != before {
			t.Errorf("%s\nbecame\n%s", before, after)
		}
	}
}

// R3: only Prepare has changes, and what else is under way has only what the chapter names.
func TestChangesOfMessages(t *testing.T) {
	seen := map[int]int{}
	for seed := range int64(60) {
		for _, m := range story(t, 500+seed).x.Flight() {
			seen[m.Kind]++
			if (m.Kind == api.Prepare) != (len(m.Changes) > 0) {
				t.Errorf("the message %v", m)
			}
		}
	}
	if len(seen) != 7 {
		t.Errorf("only messages of the kinds %v", seen)
	}
}

// R4: a nil list of changes is an empty one.
func TestNilIsEmpty(t *testing.T) {
	x := busy(t)
	for _, changes := range [][]api.Change{nil, {}} {
		if n, e := x.Submit(0, changes); n != 0 || e != api.ErrArg {
			t.Errorf("Submit(0, %v) = %d, %d", changes, n, e)
		}
	}
}
