package catch

import (
	"math/big"
	"math/rand"
	"slices"
	"strings"
	"testing"

	"gamp/api"
)

// chain is a minimal automaton in which the letter a leads from each of its states to the next one, and the other letters lead to the last one, from which nothing is accepted.
func chain(length int, accept ...int) machine {
	m := machine{accept: make([]bool, length+1)}
	for s := range length {
		m.next = append(m.next, row{s + 1, length, length, length})
	}
	m.next = append(m.next, row{length, length, length, length})
	for _, s := range accept {
		m.accept[s] = true
	}
	return m.renumbered()
}

// renumbered numbers the states as a breadth-first search reaches them: here the last one comes early.
func (m machine) renumbered() machine {
	var found machine
	states, numbers := []int{0}, map[int]int{0: 0}
	for i := 0; i < len(states); i++ {
		var next row
		for letter, s := range m.next[states[i]] {
			if _, known := numbers[s]; !known {
				numbers[s] = len(states)
				states = append(states, s)
			}
			next[letter] = numbers[s]
		}
		found.next = append(found.next, next)
		found.accept = append(found.accept, m.accept[states[i]])
	}
	return found
}

// Two automata may be told apart only by labels that are too long for Same; rules whose automata do so are not known.
func TestLongWitness(t *testing.T) {
	for length, want := range map[int]api.Errno{0: api.OK, 1: api.OK, 1000: api.OK, 1001: api.ErrRange, 3000: api.ErrRange} {
		label := strings.Repeat("a", length)
		if want != api.OK {
			label = ""
		}
		m := chain(length+1, length)
		for _, other := range []machine{chain(5), chain(4000, length+1, length+2)} {
			if same, found, e := m.against(other); same || found != label || e != want {
				t.Errorf("against, after %d letters: %t, %s, %d", length, same, found, e)
			}
			if same, found, e := other.against(m); same || found != label || e != want {
				t.Errorf("against, after %d letters: %t, %s, %d", length, same, found, e)
			}
		}
		if same, found, e := m.against(m); !same || found != "" || e != api.OK {
			t.Errorf("against itself: %t, %s, %d", same, found, e)
		}
	}
}

// Finite rules of long labels are not known either: the label may be too long, or missing.
func TestLongFinite(t *testing.T) {
	m := chain(1501, 0, 1, 1000, 1001, 1500)
	for rank, want := range []api.Errno{api.OK, api.OK, api.OK, api.ErrRange, api.ErrRange, api.ErrNone, api.ErrNone} {
		label, e := m.at(amount{uint64(rank)}.trimmed())
		if length := []int{0, 1, 1000, 0, 0, 0, 0}[rank]; e != want || label != strings.Repeat("a", length) {
			t.Errorf("at(%d) = %s, %d", rank, label, e)
		}
	}
	if m.endless() {
		t.Errorf("a chain is endless")
	}
	if label, exists := chain(1501, 1500).first(); !exists || label != strings.Repeat("a", 1500) {
		t.Errorf("first: %s, %t", label, exists)
	}
}

func bigOf(a amount) *big.Int {
	value := new(big.Int)
	for _, group := range slices.Backward(a) {
		value.Mul(value, big.NewInt(groupScale)).Add(value, new(big.Int).SetUint64(group))
	}
	return value
}

// randomAmount returns an amount of at most so many groups, many of which are as small or as great as can be.
func randomAmount(random *rand.Rand, groups int) amount {
	a := make(amount, random.Intn(groups+1))
	for i := range a {
		a[i] = []uint64{0, 1, groupScale - 1, groupScale / 2, random.Uint64() % groupScale, random.Uint64() % 1000}[random.Intn(6)]
	}
	return a.trimmed()
}

func (a amount) isTrimmed() bool {
	return len(a) == 0 || a[len(a)-1] > 0
}

func TestAmounts(t *testing.T) {
	random := rand.New(rand.NewSource(61))
	for range 20000 {
		a, b, c := randomAmount(random, 6), randomAmount(random, 6), randomAmount(random, 3)
		sum, want := added(nil, a, b, c, a, b), new(big.Int)
		for _, part := range []amount{a, b, c, a, b} {
			want.Add(want, bigOf(part))
		}
		if bigOf(sum).Cmp(want) != 0 || !sum.isTrimmed() {
			t.Errorf("added %v, %v, %v, %v, %v: %v", a, b, c, a, b, sum)
		}
		if a.isLess(b) != (bigOf(a).Cmp(bigOf(b)) < 0) {
			t.Errorf("isLess: %v, %v", a, b)
		}
		rest := sum.minus(b)
		if want.Sub(want, bigOf(b)); bigOf(rest).Cmp(want) != 0 || !rest.isTrimmed() {
			t.Errorf("%v minus %v: %v", sum, b, rest)
		}
		text := string(a.text())
		if text != bigOf(a).String() || !slices.Equal(amountOf(text), a) {
			t.Errorf("text of %v: %s, %v", a, text, amountOf(text))
		}
		if len(b) > 0 {
			divisor := new(big.Int).GCD(nil, nil, bigOf(a), bigOf(b))
			if areCoprime(a, b) != (divisor.Cmp(big.NewInt(1)) == 0) {
				t.Errorf("areCoprime: %v, %v", a, b)
			}
		}
	}
}

// Sums of 16 parts do not overflow.
func TestSumsOfGreatest(t *testing.T) {
	greatest := amount{groupScale - 1, groupScale - 1}
	parts := slices.Repeat([]amount{greatest}, 16)
	want := new(big.Int).Mul(bigOf(greatest), big.NewInt(16))
	if sum := added(nil, parts...); bigOf(sum).Cmp(want) != 0 {
		t.Errorf("added: %v", sum)
	}
}
