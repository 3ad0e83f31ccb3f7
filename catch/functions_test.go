package catch_test

import (
	"math/big"
	"math/rand"
	"slices"
	"strings"
	"testing"

	"gamp/api"
	"gamp/catch"
)

// rule is one with all that the reference knows about it.
type rule struct {
	text    string
	tree    *tree
	machine api.Machine
}

// ruleOf reads a rule that is good.
func ruleOf(t *testing.T, text string) rule {
	t.Helper()
	tree := parse(text)
	if tree == nil {
		t.Fatalf("%s is malformed", text)
	}
	return rule{text, tree, minimal(tree.automaton())}
}

func rulesOf(t *testing.T, texts ...string) []rule {
	t.Helper()
	var all []rule
	for _, text := range texts {
		all = append(all, ruleOf(t, text))
	}
	return all
}

func pick(random *rand.Rand, list ...string) string {
	return list[random.Intn(len(list))]
}

// randomRegex returns a REGEX with so many atoms.
func randomRegex(random *rand.Rand, atoms int) string {
	if atoms == 0 {
		return pick(random, "()", "()*")
	}
	if atoms == 1 || random.Intn(20) == 0 {
		return pick(random, "a", "b", "c", "d", "a", "b", ".", ".", "[ab]", "[dbc]", "[adc]", "[ab]", "[bc]", pick(random, "[]", "(a)", "()b", "c()")) + pick(random, "", "", "", "*", "+", "?", "*?", "++")
	}
	left := random.Intn(atoms) + random.Intn(8)/7
	x, y := randomRegex(random, left), randomRegex(random, atoms-left)
	switch random.Intn(8) {
	case 0:
		return "(" + x + "|" + y + ")" + pick(random, "", "*", "+", "?")
	case 1:
		return "(" + x + y + ")" + pick(random, "*", "+", "?")
	case 2:
		return x + "|" + y
	case 3:
		return "(" + x + ")" + y
	}
	return x + y
}

// randomRule returns a rule with so many atoms.
func randomRule(random *rand.Rand, atoms int) string {
	if atoms <= 1 || random.Intn(2) == 0 {
		return pick(random, "", "", "", "!", "!!") + randomRegex(random, atoms)
	}
	left := random.Intn(atoms + 1)
	x, y := randomRule(random, left), randomRule(random, atoms-left)
	return pick(random, x+"&"+y, x+"/"+y, "{"+x+"&"+y+"}", "!{"+x+"&"+y+"}", "{"+x+"/"+y+"}", "!{"+x+"/"+y+"}", "!"+x+"&"+y)
}

// randomRules returns some good rules.
func randomRules(t *testing.T, random *rand.Rand, count int) []rule {
	t.Helper()
	var all []rule
	for len(all) < count {
		if text := randomRule(random, max(random.Intn(api.MaxAtoms+1), random.Intn(api.MaxAtoms+1))); len(text) <= api.MaxRule {
			all = append(all, ruleOf(t, text))
		}
	}
	return all
}

// someRules returns rules of all kinds.
func someRules(t *testing.T, seed int64, count int) []rule {
	t.Helper()
	all := rulesOf(t, "()", "[]", "a", ".", "[ab]", "[dcba]", "[]*", "()*", ".*", "a*", "a+", "a?", "(ab)*", ".*a", "!{.*b.*}", "[acd]*", "a*&!{()}", "!a|b", "a|b&b|c/d", "a&b/c&c", "!a&b", "!!a", "!!!a", "!{a}&!{b}",
		"(a|b)*", "(a*b*)*", "(a*b)*", "[ab]+&!{.*aa.*}", "a+b?", "a?b?", ".*a.", "a*&b*", "a*&b*&c*/d", "(a)", "((a))", "(a|())", "{{a}}", "{a}/{b}", "{a/b}&{b/c}", "a**", "a+?", "a?*", "(a*)+", "(ab|c)+d?", "a|b|c|d", "a/b/c/d", "a&a&a",
		"(aaa)*&(aaaa)*&(aaaaa)+", ".*a........", "(a|.b)*c(.[ab])?", "!{.*a.*}/!{.*b.*}", "()|()", "()a()b()", "[a]b[c]d", "(a?b?c?d?)*", "(aaaaaaaaaaa)*b", "(.|..|...)+")
	return append(all, randomRules(t, rand.New(rand.NewSource(seed)), count)...)
}

func (r rule) checkMatch(t *testing.T, label string, want bool) {
	t.Helper()
	if ok, e := catch.Match(r.text, label); e != api.OK || ok != want {
		t.Errorf("Match(%s, %s) = %t, %d, not %t", r.text, label, ok, e, want)
	}
}

func (r rule) checkCount(t *testing.T, length int, want string) {
	t.Helper()
	if n, e := catch.Count(r.text, length); e != api.OK || string(n) != want {
		t.Errorf("Count(%s, %d) = %s, %d, not %s", r.text, length, n, e, want)
	}
}

func (r rule) checkAt(t *testing.T, rank, want string) {
	t.Helper()
	if label, e := catch.At(r.text, api.Num(rank)); e != api.OK || label != want {
		t.Errorf("At(%s, %s) = %s, %d, not %s", r.text, rank, label, e, want)
	}
}

func (r rule) checkRank(t *testing.T, label, want string) {
	t.Helper()
	if n, e := catch.Rank(r.text, label); e != api.OK || string(n) != want {
		t.Errorf("Rank(%s, %s) = %s, %d, not %s", r.text, label, n, e, want)
	}
}

func (r rule) checkNoRank(t *testing.T, label string) {
	t.Helper()
	if n, e := catch.Rank(r.text, label); e != api.ErrNone || n != "" {
		t.Errorf("Rank(%s, %s) = %s, %d", r.text, label, n, e)
	}
}

// checkFirst checks the first label, of which there is none if want is "none".
func (r rule) checkFirst(t *testing.T, want string) {
	t.Helper()
	code := api.OK
	if want == "none" {
		want, code = "", api.ErrNone
	}
	if label, e := catch.First(r.text); e != code || label != want {
		t.Errorf("First(%s) = %s, %d, not %s", r.text, label, e, want)
	}
}

func (r rule) checkSame(t *testing.T, other rule) {
	t.Helper()
	want, apart := firstApart(r.machine, other.machine)
	if same, label, e := catch.Same(r.text, other.text); e != api.OK || same == apart || label != want {
		t.Errorf("Same(%s, %s) = %t, %s, %d, not %t, %s", r.text, other.text, same, label, e, !apart, want)
	}
}

func (r rule) checkAutomaton(t *testing.T) {
	t.Helper()
	if m, e := catch.Automaton(r.text); e != api.OK || !equalMachines(m, r.machine) {
		t.Errorf("Automaton(%s) = %v, %d, not %v", r.text, m, e, r.machine)
	}
}

// isEndless looks for a label of at least as many letters as there are states, and fewer than twice as many (C5).
func (r rule) isEndless() bool {
	m := len(r.machine.Next)
	now := ends(r.machine, m)
	for range m {
		if accepted(r.machine, now).Sign() > 0 {
			return true
		}
		now = further(r.machine, now)
	}
	return false
}

func (r rule) checkEndless(t *testing.T) {
	t.Helper()
	if endless, e := catch.Endless(r.text); e != api.OK || endless != r.isEndless() {
		t.Errorf("Endless(%s) = %t, %d, not %t", r.text, endless, e, r.isEndless())
	}
}

func TestExamples(t *testing.T) {
	m, e := catch.Automaton("(ab)*")
	if want := (api.Machine{Next: [][]int{{1, 2, 2, 2}, {2, 0, 2, 2}, {2, 2, 2, 2}}, Accept: []bool{true, false, false}}); e != api.OK || !equalMachines(m, want) {
		t.Errorf("Automaton: %v, %d", m, e)
	}
	if same, label, e := catch.Same("a*", "a+"); same || label != "" || e != api.OK {
		t.Errorf("Same: %t, %s, %d", same, label, e)
	}
	if same, label, e := catch.Same("!{.*b.*}", "[acd]*"); !same || label != "" || e != api.OK {
		t.Errorf("Same: %t, %s, %d", same, label, e)
	}
	r := ruleOf(t, ".*a")
	r.checkCount(t, 3, "16")
	r.checkAt(t, "0", "a")
	r.checkAt(t, "1", "aa")
	r.checkRank(t, "ba", "2")
	ruleOf(t, "[]").checkFirst(t, "none")
	ruleOf(t, "a*&!{()}").checkFirst(t, "a")
}

// Check reads what the grammar allows, and nothing else: all texts of at most 4 of its signs and some others.
func TestCheckOfAllShortRules(t *testing.T) {
	good := 0
	for _, text := range textsOf("ab.e[]()*+?|/&!{} ", 4) {
		if checkCheck(t, text) {
			good++
		}
	}
	for _, text := range textsOf("a|()&{}!", 6) {
		checkCheck(t, text)
	}
	if good < 1500 {
		t.Errorf("only %d good rules", good)
	}
}

// textsOf returns all texts of at most so many of some signs.
func textsOf(signs string, length int) []string {
	all := []string{""}
	for i := 0; len(all[i]) < length; i++ {
		for k := range signs {
			all = append(all, all[i]+signs[k:k+1])
		}
	}
	return all
}

// checkCheck returns whether a rule is good.
func checkCheck(t *testing.T, text string) bool {
	t.Helper()
	want := api.ErrForm
	tree := parse(text)
	if tree != nil {
		want = api.OK
	}
	if e := catch.Check(text); e != want {
		t.Errorf("Check(%q) = %d, not %d", text, e, want)
	}
	return tree != nil
}

// Good rules with changes are read as the grammar says.
func TestCheckOfChangedRules(t *testing.T) {
	random := rand.New(rand.NewSource(1))
	good := 0
	for _, r := range someRules(t, 2, 400) {
		for range 5 {
			text := r.text
			for range 1 + random.Intn(3) {
				i := random.Intn(len(text) + 1)
				sign := pick(random, "", "a", "b", "d", ".", "[", "]", "(", ")", "()", "[]", "*", "+", "?", "|", "/", "&", "!", "{", "}", "e", "A", " ", "\x00", "\xff")
				text = text[:i] + sign + text[min(i+random.Intn(2), len(text)):]
			}
			tree := parse(text)
			if len(text) <= api.MaxRule && (tree == nil || tree.atoms() <= api.MaxAtoms) && checkCheck(t, text) {
				good++
			}
		}
	}
	if good < 200 {
		t.Errorf("only %d good rules", good)
	}
}

// Short rules allow what the chapter says, for all labels of at most 3 letters.
func TestMatchOfAllShortRules(t *testing.T) {
	all := allLabels(3)
	for _, text := range textsOf("ab.[]()*+?|/&!{}", 4) {
		tree := parse(text)
		if tree == nil {
			continue
		}
		allowed := tree.allowed(3)
		r := rule{text: text, tree: tree}
		for _, label := range all {
			r.checkMatch(t, label, allowed[label])
		}
	}
}

// Rules allow what the chapter says, for all labels of at most 5 letters; First, Count, At and Rank agree with the list of them.
func TestLabels(t *testing.T) {
	all := allLabels(longest)
	for _, r := range someRules(t, 3, 90) {
		allowed := r.tree.allowed(longest)
		for i, label := range all {
			r.checkMatch(t, label, allowed[label])
			if i%17 == 0 && !allowed[label] {
				r.checkNoRank(t, label)
			}
		}
		r.checkList(t, allowed.sorted())
	}
}

// checkList checks a rule by the list of the labels of at most 5 letters that it allows.
func (r rule) checkList(t *testing.T, list []string) {
	t.Helper()
	counts := make([]int64, longest+1)
	step := 1 + len(list)/40
	for i, label := range list {
		counts[len(label)]++
		if i%step == 0 || i == len(list)-1 {
			rank := big.NewInt(int64(i)).String()
			r.checkAt(t, rank, label)
			r.checkRank(t, label, rank)
		}
	}
	for length, count := range counts {
		r.checkCount(t, length, big.NewInt(count).String())
	}
	if len(list) > 0 {
		r.checkFirst(t, list[0])
	}
}

// Automata are what the derivatives of the rules come to; First and Endless agree with them.
func TestAutomaton(t *testing.T) {
	for _, r := range someRules(t, 4, 1500) {
		r.checkAutomaton(t)
		r.checkEndless(t)
		none := api.Machine{Next: [][]int{{0, 0, 0, 0}}, Accept: []bool{false}}
		if first, exists := firstApart(r.machine, none); exists {
			r.checkFirst(t, first)
		} else {
			r.checkFirst(t, "none")
		}
	}
}

// randomLabel returns a label of so many letters.
func randomLabel(random *rand.Rand, length int) string {
	label := make([]byte, length)
	for i := range label {
		label[i] = "abcd"[random.Intn(4)]
	}
	return string(label)
}

// walk returns a label of at most so many letters that the rule allows, if it finds one: letters at random, from which the rule can still be met.
func (r rule) walk(random *rand.Rand, length int) (string, bool) {
	alive := r.alive()
	label, s := "", 0
	best, found := "", r.machine.Accept[0]
	for len(label) < length {
		letter := random.Intn(4)
		for range 4 {
			if alive[r.machine.Next[s][letter]] {
				break
			}
			letter = (letter + 1) % 4
		}
		s = r.machine.Next[s][letter]
		label += "abcd"[letter : letter+1]
		if r.machine.Accept[s] {
			best, found = label, true
		}
	}
	return best, found
}

// alive tells from which states an accepting one is reached.
func (r rule) alive() []bool {
	alive := slices.Clone(r.machine.Accept)
	for range alive {
		for s, next := range r.machine.Next {
			for _, other := range next {
				alive[s] = alive[s] || alive[other]
			}
		}
	}
	return alive
}

// Long labels are matched as the automaton says, and ranked as the numbers of those before them say.
func TestLongLabels(t *testing.T) {
	random := rand.New(rand.NewSource(5))
	for _, r := range someRules(t, 6, 300) {
		for _, length := range []int{7, 30, 100} {
			label := randomLabel(random, length)
			r.checkMatch(t, label, accepts(r.machine, label))
			label, found := r.walk(random, length)
			r.checkMatch(t, label, found)
			if found && len(r.machine.Next) < 70 {
				rank := rankIn(r.machine, label).String()
				r.checkRank(t, label, rank)
				if len(rank) <= 40 {
					r.checkAt(t, rank, label)
				}
			}
		}
	}
}

func TestCountOfLongLabels(t *testing.T) {
	for _, r := range someRules(t, 7, 200) {
		if len(r.machine.Next) > 70 {
			continue
		}
		for _, length := range []int{6, 29, 30, 31, 99, 100} {
			r.checkCount(t, length, accepted(r.machine, ends(r.machine, length)).String())
		}
	}
}

// At returns labels of ranks of any size; those behind them do not exist if the rule is not endless.
func TestRanks(t *testing.T) {
	random := rand.New(rand.NewSource(8))
	for _, r := range someRules(t, 9, 200) {
		for digits := 1; digits <= 40; digits += 13 {
			rank := new(big.Int).Rand(random, new(big.Int).Exp(big.NewInt(10), big.NewInt(int64(digits)), nil))
			label, e := catch.At(r.text, api.Num(rank.String()))
			if e != api.OK {
				r.checkNoLabel(t, rank, e)
			} else if !accepts(r.machine, label) || rankIn(r.machine, label).Cmp(rank) != 0 {
				t.Errorf("At(%s, %s) = %s", r.text, rank, label)
			}
		}
	}
}

// checkNoLabel checks why there is no label of a rank, by the number of labels of at most MaxText letters.
func (r rule) checkNoLabel(t *testing.T, rank *big.Int, e api.Errno) {
	t.Helper()
	want := api.ErrNone
	if r.isEndless() {
		want = api.ErrRange
	}
	sum, now := new(big.Int), ends(r.machine, 0)
	for range api.MaxText + 1 {
		sum.Add(sum, accepted(r.machine, now))
		now = further(r.machine, now)
	}
	if e != want || sum.Cmp(rank) > 0 {
		t.Errorf("At(%s, %s): error %d, with %s labels", r.text, rank, e, sum)
	}
}

// Rules are compared as all pairs of states tell them apart: at random, and those that differ little.
func TestSame(t *testing.T) {
	random := rand.New(rand.NewSource(10))
	all := someRules(t, 11, 200)
	for _, r := range all {
		for range 5 {
			r.checkSame(t, all[random.Intn(len(all))])
		}
		r.checkSame(t, r)
		label, _ := r.walk(random, 3)
		for _, text := range []string{"{" + r.text + "}/" + spelled(label), "{" + r.text + "}&!" + spelled(label), "{" + r.text + "}&!{.....*}"} {
			if tree := parse(text); len(text) <= api.MaxRule && tree.atoms() <= api.MaxAtoms {
				other := ruleOf(t, text)
				r.checkSame(t, other)
				other.checkSame(t, r)
			}
		}
	}
}

// spelled returns a rule that allows one label.
func spelled(label string) string {
	if label == "" {
		return "()"
	}
	return label
}

// Rules that differ in long labels only.
func TestSameOfLongLabels(t *testing.T) {
	for _, c := range []struct{ a, b, want string }{
		{"[]", "(aaa)*&(aaaa)*&(aaaaa)+", strings.Repeat("a", 60)},
		{"()", "(aaa)*&(aaaa)*&(aaaaa)*", strings.Repeat("a", 60)},
		{"(aaaaaaaaaaa)+", "(aaaaaaaaaa)+", strings.Repeat("a", 10)},
		{"...........[abc]", "............", strings.Repeat("a", 11) + "d"},
		{".*a..........", ".*[ab]..........", "b" + strings.Repeat("a", 10)},
		{".*a..........", "{.*a..........}&!{()}", ""},
		{".*a.........|b", ".*a.........", "b"},
		{".*[ab]..........", ".*[bc]..........", strings.Repeat("a", 11)},
	} {
		same, label, e := catch.Same(c.a, c.b)
		if e != api.OK || same != (c.want == "") || label != c.want {
			t.Errorf("Same(%s, %s) = %t, %s, %d", c.a, c.b, same, label, e)
		}
	}
}
