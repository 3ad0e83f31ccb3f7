package catch_test

import (
	"math/big"
	"math/rand"
	"strings"
	"testing"

	"gamp/api"
	"gamp/catch"
)

// Rules of 100 bytes, of whatever depth.
func TestLongRules(t *testing.T) {
	for _, text := range []string{
		"a" + strings.Repeat("*", 99), "a" + strings.Repeat("+", 99), "a" + strings.Repeat("?", 99), strings.Repeat("!", 99) + "a", strings.Repeat("{", 49) + "ab" + strings.Repeat("}", 49), strings.Repeat("(", 49) + "ab" + strings.Repeat(")", 49),
		strings.Repeat("()", 50), strings.Repeat("()&", 33) + "a", strings.Repeat("()/", 33) + "a", strings.Repeat("()|", 33) + "a", strings.Repeat("!{", 33) + "a" + strings.Repeat("}", 33), "a" + strings.Repeat("+?*", 33), strings.Repeat("(", 32) + "a" + strings.Repeat("*)", 32) + "bcd", strings.Repeat("!!{", 24) + "[abcd]" + strings.Repeat("}", 22),
	} {
		if len(text) > api.MaxRule {
			t.Fatalf("%s has %d bytes", text, len(text))
		}
		if parse(text) == nil {
			call{rule: text}.check(t, api.ErrForm, "Check", "Automaton")
			continue
		}
		r := ruleOf(t, text)
		r.checkAutomaton(t)
		r.checkEndless(t)
		r.checkCount(t, 20, accepted(r.machine, ends(r.machine, 20)).String())
	}
}

// Automata of 1000 states are returned, larger ones are not.
func TestMostStates(t *testing.T) {
	for text, states := range map[string]int{".|([bd]?[abc]...)*(c.[abc]..)+.": 1000, "b([bd]?[abc]...)*(c.[abc]..)+.": 1001, ".*a........": 512, ".*a.........": 1024, ".*a..........": 2048, "!.*[bc].........": 1024} {
		r := ruleOf(t, text)
		if len(r.machine.Next) != states {
			t.Errorf("%s has %d states", text, len(r.machine.Next))
		}
		if states <= api.MaxStates {
			r.checkAutomaton(t)
		} else {
			call{rule: text}.check(t, api.ErrRange, "Automaton")
		}
		r.checkEndless(t)
	}
}

// C1: automata of more than 1000 states accept what their rules allow, too.
func TestManyStates(t *testing.T) {
	r := ruleOf(t, ".*[ab]..........")
	r.checkFirst(t, strings.Repeat("a", 11))
	for _, length := range []int{0, 10, 11, 12, 57, 100} {
		want := new(big.Int)
		if length > 10 {
			want.Exp(big.NewInt(4), big.NewInt(int64(length-1)), nil).Mul(want, big.NewInt(2))
		}
		r.checkCount(t, length, want.String())
	}
	random := rand.New(rand.NewSource(51))
	for _, length := range []int{11, 40, 70, 1000} {
		label := randomLabel(random, length-11) + "b" + randomLabel(random, 10)
		// Half of the labels that are long enough are allowed, but those that come before this one with its first letters end in any others.
		rank := halfRank(label, 11)
		r.checkMatch(t, label, true)
		r.checkRank(t, label, rank.String())
		if len(rank.String()) <= 40 {
			r.checkAt(t, rank.String(), label)
		}
		label = label[:length-11] + "c" + label[length-10:]
		r.checkMatch(t, label, false)
		r.checkNoRank(t, label)
	}
	for _, c := range [][2]string{{".*[ab]..........", "!!{.*[ba]..........}"}, {".*[ab]..........", "{.*[ab]..........}/{[]}"}, {".*[ab]..........", "!{!{.*[ab]..........}}"}} {
		if tree := parse(c[1]); tree.atoms() > api.MaxAtoms {
			continue
		}
		if same, label, e := catch.Same(c[0], c[1]); !same || label != "" || e != api.OK {
			t.Errorf("Same%v = %t, %s, %d", c, same, label, e)
		}
	}
}

// halfRank returns the rank of a label with an a or b so many letters before its end among all labels with one of them there: those of each shorter length, those of its length that differ first before that place, of which half are allowed, at that place, and behind it.
func halfRank(label string, place int) *big.Int {
	four, two, rank := big.NewInt(4), big.NewInt(2), new(big.Int)
	power := func(exponent int) *big.Int { return new(big.Int).Exp(four, big.NewInt(int64(exponent)), nil) }
	for length := place; length < len(label); length++ {
		rank.Add(rank, new(big.Int).Mul(two, power(length-1)))
	}
	for i, c := range label {
		rest, lesser := len(label)-1-i, big.NewInt(int64(c-'a'))
		if rest >= place {
			rank.Add(rank, lesser.Mul(lesser, new(big.Int).Mul(two, power(rest-1))))
		} else {
			rank.Add(rank, lesser.Mul(lesser, power(rest)))
		}
	}
	return rank
}

// The ranks of all labels are those numbers whose digits, from 1 to 4, are their letters.
func TestRanksOfAllLabels(t *testing.T) {
	random := rand.New(rand.NewSource(52))
	r := rule{text: ".*"}
	for _, length := range []int{0, 1, 2, 29, 30, 31, 66, 500, 999, 1000} {
		for _, label := range []string{randomLabel(random, length), strings.Repeat("a", length), strings.Repeat("d", length)} {
			rank := new(big.Int)
			for _, c := range label {
				rank.Mul(rank, big.NewInt(4)).Add(rank, big.NewInt(int64(c-'a'+1)))
			}
			r.checkRank(t, label, rank.String())
			if length < 66 {
				r.checkAt(t, rank.String(), label)
			}
		}
	}
}

// The greatest ranks, and labels of 1000 letters.
func TestGreatRanks(t *testing.T) {
	nines := strings.Repeat("9", 40)
	for text, count := range map[string]int{".*": 67, "[bd]*": 132, "(.[ab])*": 0, ".*a..........": 0, "(aaaaaaaaaaab?)*": 0} {
		label, e := catch.At(text, api.Num(nines))
		if text == "(aaaaaaaaaaab?)*" {
			if e != api.ErrRange {
				t.Errorf("At(%s, %s) = %s, %d", text, nines, label, e)
			}
			continue
		}
		if e != api.OK || count > 0 && len(label) != count {
			t.Errorf("At(%s, %s) = %s, %d", text, nines, label, e)
		}
		rule{text: text}.checkRank(t, label, nines)
	}
	r := rule{text: "(aaa|aaaa)b*"}
	for _, rank := range []string{"0", "1", "2", "1993", "1994"} {
		label, e := catch.At(r.text, api.Num(rank))
		if e != api.OK {
			t.Errorf("At(%s, %s): error %d", r.text, rank, e)
		}
		r.checkRank(t, label, rank)
	}
	call{rule: r.text, rank: "1995"}.check(t, api.ErrRange, "At")
	r = rule{text: "(ab|ba)*"}
	label := strings.Repeat("abba", 250)
	rank := new(big.Int)
	for i := range 500 {
		rank.Mul(rank, big.NewInt(2)).Add(rank, big.NewInt(int64(i%2+1)))
	}
	r.checkRank(t, label, rank.String())
}
