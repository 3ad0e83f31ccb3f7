package catch_test

import (
	"math/big"
	"math/rand"
	"slices"
	"strings"
	"testing"

	"gamp/api"
	"gamp/catch"
)

// isMinimal tells whether an automaton is numbered as a breadth-first search reaches its states, and whether a label tells each two of them apart.
func isMinimal(m api.Machine) bool {
	reached := 1
	for s, next := range m.Next {
		if s >= reached || len(next) != 4 {
			return false
		}
		for _, other := range next {
			if other < 0 || other > reached || other >= len(m.Next) {
				return false
			}
			reached = max(reached, other+1)
		}
	}
	return reached == len(m.Next) && len(m.Accept) == reached && allApart(m)
}

// allApart fills a table with the pairs of states that some label tells apart.
func allApart(m api.Machine) bool {
	apart := map[[2]int]bool{}
	for before := -1; before < len(apart); {
		before = len(apart)
		for s := range m.Next {
			for r := range s {
				found := m.Accept[s] != m.Accept[r]
				for letter := range 4 {
					next := [2]int{m.Next[s][letter], m.Next[r][letter]}
					found = found || apart[next] || apart[[2]int{next[1], next[0]}]
				}
				if found {
					apart[[2]int{s, r}] = true
				}
			}
		}
	}
	return len(apart) == len(m.Next)*(len(m.Next)-1)/2
}

// C1 (minimal): the automaton accepts what the rule allows, and no other automaton with so few states does.
func TestMinimal(t *testing.T) {
	for _, r := range someRules(t, 21, 400) {
		m, e := catch.Automaton(r.text)
		if e != api.OK {
			t.Fatalf("Automaton(%s): error %d", r.text, e)
		}
		if len(m.Next) < 50 && !isMinimal(m) {
			t.Errorf("Automaton(%s) = %v", r.text, m)
		}
		if label, apart := firstApart(m, r.tree.automaton()); apart {
			t.Errorf("Automaton(%s) is wrong about %s", r.text, label)
		}
		allowed := r.tree.allowed(4)
		for _, label := range allLabels(4) {
			if accepts(m, label) != allowed[label] {
				t.Errorf("Automaton(%s) is wrong about %s", r.text, label)
			}
		}
	}
}

// C1 again: rules have the same automaton exactly if they allow the same labels.
func TestOneAutomaton(t *testing.T) {
	all := someRules(t, 22, 150)
	for i, r := range all {
		m, _ := catch.Automaton(r.text)
		for _, s := range all[:i] {
			n, _ := catch.Automaton(s.text)
			if same, _, e := catch.Same(r.text, s.text); e != api.OK || same != equalMachines(m, n) {
				t.Errorf("Same(%s, %s) = %t, %d", r.text, s.text, same, e)
			}
		}
	}
}

// checkEqual fails unless two rules allow the same labels and have the same automaton.
func checkEqual(t *testing.T, a, b string) {
	t.Helper()
	if same, label, e := catch.Same(a, b); !same || label != "" || e != api.OK {
		t.Errorf("Same(%s, %s) = %t, %s, %d", a, b, same, label, e)
	}
	m, e := catch.Automaton(a)
	n, e2 := catch.Automaton(b)
	if e != api.OK || e2 != api.OK || !equalMachines(m, n) {
		t.Errorf("Automaton(%s) = %v, %d, and Automaton(%s) = %v, %d", a, m, e, b, n, e2)
	}
}

// fill puts rules for x, y and z into a law.
func fill(law, x, y, z string) string {
	return strings.NewReplacer("x", x, "y", y, "z", z).Replace(law)
}

// C2 (algebra): the laws of sets.
func TestLawsOfSets(t *testing.T) {
	random := rand.New(rand.NewSource(23))
	for range 150 {
		x, y, z := "{"+randomRule(random, 1)+"}", "{"+randomRule(random, random.Intn(3))+"}", "{"+randomRule(random, 1)+"}"
		for _, law := range [][2]string{
			{"x&y", "y&x"}, {"x/y", "y/x"}, {"x&x", "x"}, {"y/y", "y"}, {"x&{y&z}", "{x&y}&z"}, {"x/{y/z}", "{x/y}/z"}, {"x&y&z", "{x&y}&z"}, {"x/y/z", "x/{y/z}"},
			{"x&{y/z}", "x&y/x&z"}, {"x/y&z", "{x/y}&{x/z}"}, {"x&{x/y}", "x"}, {"x/x&y", "x"}, {"!!y", "y"}, {"!{x&y}", "!x/!y"}, {"!{x/y}", "!x&!y"}, {"!x&y", "{!x}&y"}, {"y&!y", "[]"}, {"y/!y", ".*"},
			{"y&.*", "y"}, {"y&[]", "[]"}, {"y/[]", "y"}, {"y/.*", ".*"}, {"![]", ".*"}, {"x/y&z/x", "{y&z}/x"}, {"{y}", "y"},
		} {
			a, b := fill(law[0], x, y, z), fill(law[1], x, y, z)
			if len(a) <= api.MaxRule && len(b) <= api.MaxRule {
				checkEqual(t, a, b)
			}
		}
	}
}

// C2 again: the laws of regexes, in which | is the same as /, and what + and ? stand for.
func TestLawsOfRegexes(t *testing.T) {
	random := rand.New(rand.NewSource(24))
	for range 150 {
		x, y, z := "("+randomRegex(random, 1)+")", "("+randomRegex(random, random.Intn(4))+")", "("+randomRegex(random, 1)+")"
		for _, law := range [][2]string{
			{"x|y", "x/y"}, {"x|y|z", "x/y/z"}, {"y|x|z", "{y|x}/z"}, {"y+", "yy*"}, {"y+", "y*y"}, {"y?", "y|()"}, {"y?", "()/y"}, {"y*", "y+|()"}, {"y*", "y?*"}, {"y**", "y*"}, {"y++", "y+"}, {"y??", "y?"}, {"y+?", "y*"}, {"y*+", "y*"},
			{"x(yz)", "(xy)z"}, {"x(y|z)", "xy|xz"}, {"(y|z)x", "yx|zx"}, {"y()", "y"}, {"()y", "y"}, {"y[]", "[]"}, {"[]y", "[]"}, {"y|[]", "y"}, {"[]*", "()"}, {"()*", "()"}, {"(xz)*x", "x(zx)*"}, {"y*y*", "y*"}, {"[abcd]", "."}, {"a|b|c", "[cab]"},
			{"!x|y", "!{x|y}"}, {"x|y&z", "{x/y}&z"}, {"x&y|z", "x&{y/z}"},
		} {
			a, b := fill(law[0], x, y, z), fill(law[1], x, y, z)
			if len(a) <= api.MaxRule && len(b) <= api.MaxRule {
				checkEqual(t, a, b)
			}
		}
	}
}

// C3 (witness): Same's label tells the rules apart, and no earlier one does.
func TestWitness(t *testing.T) {
	all := someRules(t, 25, 200)
	random := rand.New(rand.NewSource(26))
	labels := allLabels(longest)
	for _, r := range all {
		for range 6 {
			s := all[random.Intn(len(all))]
			same, label, e := catch.Same(r.text, s.text)
			if e != api.OK || same && label != "" {
				t.Fatalf("Same(%s, %s) = %t, %s, %d", r.text, s.text, same, label, e)
			}
			a, _ := catch.Match(r.text, label)
			b, _ := catch.Match(s.text, label)
			if a == b && !same {
				t.Errorf("Same(%s, %s) = %s", r.text, s.text, label)
			}
			for _, earlier := range labels {
				if (same || compareLabels(earlier, label) < 0) && accepts(r.machine, earlier) != accepts(s.machine, earlier) {
					t.Errorf("Same(%s, %s) = %t, %s, but %s is earlier", r.text, s.text, same, label, earlier)
				}
			}
		}
	}
}

// C4 (ranks): At and Rank are inverse, and At's labels rise.
func TestInverse(t *testing.T) {
	random := rand.New(rand.NewSource(27))
	for _, r := range someRules(t, 28, 150) {
		rank, step := new(big.Int), big.NewInt(1)
		before, found := "", false
		for i := range 60 {
			label, e := catch.At(r.text, api.Num(rank.String()))
			if e != api.OK {
				r.checkNoLabel(t, rank, e)
				break
			}
			if found && compareLabels(before, label) >= 0 {
				t.Errorf("At(%s, %s) = %s, behind %s", r.text, rank, label, before)
			}
			before, found = label, true
			r.checkRank(t, label, rank.String())
			if i > 20 {
				step.Mul(step, big.NewInt(2+random.Int63n(10)))
			}
			rank = new(big.Int).Add(rank, step)
			if len(rank.String()) > 40 {
				break
			}
		}
	}
}

// C5 (counts): a rule and its opposite allow all labels between them.
func TestOpposites(t *testing.T) {
	for _, r := range someRules(t, 29, 150) {
		text := "!{" + r.text + "}"
		if len(text) > api.MaxRule {
			continue
		}
		for _, length := range []int{0, 1, 2, 7, 50, 100} {
			m, e := catch.Count(r.text, length)
			n, e2 := catch.Count(text, length)
			all := new(big.Int).Exp(big.NewInt(4), big.NewInt(int64(length)), nil)
			if e != api.OK || e2 != api.OK || sum(m, n).Cmp(all) != 0 {
				t.Errorf("Count(%s, %d) = %s, %d, and of the opposite %s, %d", r.text, length, m, e, n, e2)
			}
		}
	}
}

func sum(nums ...api.Num) *big.Int {
	all := new(big.Int)
	for _, n := range nums {
		value, good := new(big.Int).SetString(string(n), 10)
		if !good {
			return big.NewInt(-1)
		}
		all.Add(all, value)
	}
	return all
}

// C5 again: a rule is endless if it allows a label of at least m letters and fewer than 2m.
func TestEndless(t *testing.T) {
	endless := 0
	for _, r := range someRules(t, 30, 300) {
		m := len(r.machine.Next)
		if m > 50 {
			continue
		}
		want := slices.ContainsFunc(upTo(m), func(i int) bool {
			n, _ := catch.Count(r.text, m+i)
			return n != "0"
		})
		if found, e := catch.Endless(r.text); e != api.OK || found != want {
			t.Errorf("Endless(%s) = %t, %d, not %t", r.text, found, e, want)
		}
		if want {
			endless++
		}
	}
	if endless < 100 || endless > 300 {
		t.Errorf("%d rules are endless", endless)
	}
}

func upTo(n int) []int {
	all := make([]int, n)
	for i := range all {
		all[i] = i
	}
	return all
}

// C6 (Kleene).
func TestKleene(t *testing.T) {
	random := rand.New(rand.NewSource(31))
	for range 500 {
		x, y := "("+randomRegex(random, random.Intn(4))+")", "("+randomRegex(random, random.Intn(4))+")"
		checkEqual(t, fill("(x|y)*", x, y, ""), fill("(x*y*)*", x, y, ""))
	}
}
