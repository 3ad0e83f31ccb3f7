package catch_test

import (
	"fmt"
	"slices"
	"strings"
	"sync"
	"testing"

	"gamp/api"
	"gamp/catch"
)

// everything returns the results of all functions, as text.
func (c call) everything() string {
	text := fmt.Sprintln(catch.Check(c.rule))
	ok, e := catch.Match(c.rule, c.text)
	text += fmt.Sprintln(ok, e)
	m, e := catch.Automaton(c.rule)
	text += fmt.Sprintln(m, e)
	ok, label, e := catch.Same(c.rule, c.other)
	text += fmt.Sprintf("%t %q %d\n", ok, label, e)
	label, e = catch.First(c.rule)
	text += fmt.Sprintf("%q %d\n", label, e)
	ok, e = catch.Endless(c.rule)
	text += fmt.Sprintln(ok, e)
	n, e := catch.Count(c.rule, c.length)
	text += fmt.Sprintf("%q %d\n", n, e)
	label, e = catch.At(c.rule, c.rank)
	text += fmt.Sprintf("%q %d\n", label, e)
	n, e = catch.Rank(c.rule, c.text)
	return text + fmt.Sprintf("%q %d\n", n, e)
}

// calls are good and bad ones.
func calls(t *testing.T) []call {
	all := []call{good(), bad(), {}, {rule: "e"}, {rule: strings.Repeat("a", 101)}, {rule: ".*a..........", other: ".*b..........", length: 50, rank: "12345678901234567890", text: strings.Repeat("dcba", 20)}}
	rules := someRules(t, 41, 60)
	for i, r := range rules {
		all = append(all, call{r.text, rules[len(rules)-1-i].text, "abca", 9, "77"})
	}
	return all
}

// R6: the same arguments give the same results, whatever is called between.
func TestSameAgain(t *testing.T) {
	all := calls(t)
	var first []string
	for _, c := range all {
		first = append(first, c.everything())
	}
	for range 3 {
		for i, c := range slices.Backward(all) {
			// The same bytes, in other memory.
			c.rule, c.text = strings.Clone(c.rule), strings.Clone(c.text)
			if second := c.everything(); first[i] != second {
				t.Errorf("%s\nand then\n%s", first[i], second)
			}
		}
	}
}

// R6 again: nothing is shared by calls at the same time.
func TestTogether(t *testing.T) {
	all := calls(t)
	var group sync.WaitGroup
	for _, c := range all {
		want := c.everything()
		for range 3 {
			group.Go(func() {
				if found := c.everything(); found != want {
					t.Errorf("%s\nand then\n%s", want, found)
				}
			})
		}
	}
	group.Wait()
}

// R5: results are new memory, also that of each row.
func TestResultsAreNew(t *testing.T) {
	for _, c := range calls(t) {
		first := c.everything()
		m, _ := catch.Automaton(c.rule)
		for s, next := range m.Next {
			scribble(next, 77+s)
		}
		for s, next := range m.Next {
			if len(next) != 4 || slices.ContainsFunc(next, func(other int) bool { return other != 77+s }) {
				t.Errorf("rows share memory: %v", m.Next)
			}
		}
		for s := range m.Accept {
			m.Accept[s] = !m.Accept[s]
		}
		if second := c.everything(); first != second {
			t.Errorf("%s\nand then\n%s", first, second)
		}
	}
}

// scribble writes over all memory of a list.
func scribble(list []int, with int) {
	for i := range list[:cap(list)] {
		list[:cap(list)][i] = with
	}
}

// R7: numbers are decimal, without leading zeros.
func TestNumbers(t *testing.T) {
	for _, r := range someRules(t, 42, 60) {
		for _, length := range []int{0, 5, 29, 30, 31, 59, 60, 61, 90, 100} {
			n, e := catch.Count(r.text, length)
			if e != api.OK || !isNumber(string(n)) {
				t.Errorf("Count(%s, %d) = %s, %d", r.text, length, n, e)
			}
		}
	}
}

func isNumber(text string) bool {
	return text == "0" || text != "" && text[0] != '0' && strings.Trim(text, "0123456789") == ""
}
