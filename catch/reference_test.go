package catch_test

import (
	"fmt"
	"math/big"
	"slices"
	"strings"

	"gamp/api"
)

// tree is a rule as the grammar of the chapter divides it. Its sign is one of those of the grammar, or "" for parts one after the other, "[" for any one letter, "()" for the empty label.
type tree struct {
	sign    string
	letters string
	parts   []*tree
}

// grammar reads texts literally: a text is a RULE if it can be divided as the chapter says, at any place.
type grammar map[phrase]*tree

// phrase is a text that may be a symbol of the grammar.
type phrase struct {
	symbol, text string
}

// parse returns a rule's tree, or nil if it is malformed.
func parse(rule string) *tree {
	return grammar{}.is("RULE", rule)
}

// is returns the tree of a text as a symbol of the grammar, or nil.
func (g grammar) is(symbol, text string) *tree {
	if text == "" {
		return nil
	}
	key := phrase{symbol, text}
	found, known := g[key]
	if !known {
		found = g.read(symbol, text)
		g[key] = found
	}
	return found
}

func (g grammar) read(symbol, text string) *tree {
	switch symbol {
	case "RULE":
		return g.list(text, "BOTH", "/", "RULE")
	case "BOTH":
		return g.list(text, "SIDE", "&", "BOTH")
	case "SIDE":
		return g.side(text)
	case "REGEX":
		return g.list(text, "BRANCH", "|", "REGEX")
	case "BRANCH":
		return g.list(text, "PIECE", "", "BRANCH")
	case "PIECE":
		return g.piece(text)
	}
	return g.atom(text)
}

// list reads one or more symbols with signs between them: one symbol, or a list, a sign and one symbol.
func (g grammar) list(text, symbol, sign, list string) *tree {
	if t := g.is(symbol, text); t != nil {
		return t
	}
	for i := 1; i < len(text); i++ {
		rest, found := strings.CutPrefix(text[i:], sign)
		if !found {
			continue
		}
		right := g.is(symbol, rest)
		if right == nil {
			continue
		}
		if left := g.is(list, text[:i]); left != nil {
			return &tree{sign: sign, parts: []*tree{left, right}}
		}
	}
	return nil
}

func (g grammar) side(text string) *tree {
	if rest, found := strings.CutPrefix(text, "!"); found {
		if t := g.is("SIDE", rest); t != nil {
			return &tree{sign: "!", parts: []*tree{t}}
		}
	}
	if text[0] == '{' && text[len(text)-1] == '}' {
		if t := g.is("RULE", text[1:len(text)-1]); t != nil {
			return t
		}
	}
	return g.is("REGEX", text)
}

func (g grammar) piece(text string) *tree {
	if t := g.is("ATOM", text); t != nil {
		return t
	}
	last := text[len(text)-1:]
	if t := g.is("PIECE", text[:len(text)-1]); t != nil && strings.Contains("*+?", last) {
		return &tree{sign: last, parts: []*tree{t}}
	}
	return nil
}

func (g grammar) atom(text string) *tree {
	if len(text) == 1 && strings.Contains("abcd", text) {
		return &tree{sign: "[", letters: text}
	}
	if text == "." {
		return &tree{sign: "[", letters: "abcd"}
	}
	if text == "()" {
		return &tree{sign: "()"}
	}
	if text[0] == '(' && text[len(text)-1] == ')' {
		return g.is("REGEX", text[1:len(text)-1])
	}
	if text[0] == '[' && len(text) > 1 && text[len(text)-1] == ']' && isClass(text[1:len(text)-1]) {
		return &tree{sign: "[", letters: text[1 : len(text)-1]}
	}
	return nil
}

func isClass(text string) bool {
	for _, c := range text {
		if !strings.ContainsRune("abcd", c) || strings.Count(text, string(c)) > 1 {
			return false
		}
	}
	return true
}

// atoms counts the letters outside of classes, the dots and the classes.
func (t *tree) atoms() int {
	count := 0
	if t.sign == "[" {
		count = 1
	}
	for _, part := range t.parts {
		count += part.atoms()
	}
	return count
}

// longest is how many letters the labels have that are tried one by one.
const longest = 5

// allLabels returns all labels of at most so many letters, in their order.
func allLabels(length int) []string {
	all := []string{""}
	for i := 0; len(all[i]) < length; i++ {
		for _, letter := range []string{"a", "b", "c", "d"} {
			all = append(all, all[i]+letter)
		}
	}
	return all
}

// labels are some labels of at most so many letters.
type labels map[string]bool

// allowed returns the labels of at most so many letters that a rule allows, by what the chapter says about each sign.
func (t *tree) allowed(length int) labels {
	var parts []labels
	for _, part := range t.parts {
		parts = append(parts, part.allowed(length))
	}
	switch t.sign {
	case "[":
		return t.letter(length)
	case "()":
		return labels{"": true}
	case "":
		return parts[0].then(parts[1], length)
	case "*":
		return parts[0].times(0, length)
	case "+":
		return parts[0].times(1, length)
	case "?":
		return labels{"": true}.or(parts[0])
	case "|", "/":
		return parts[0].or(parts[1])
	}
	found := labels{}
	for _, label := range allLabels(length) {
		if t.sign == "!" && !parts[0][label] || t.sign == "&" && parts[0][label] && parts[1][label] {
			found[label] = true
		}
	}
	return found
}

func (t *tree) letter(length int) labels {
	found := labels{}
	for _, c := range t.letters {
		if length > 0 {
			found[string(c)] = true
		}
	}
	return found
}

func (s labels) or(other labels) labels {
	both := labels{}
	for _, some := range []labels{s, other} {
		for label := range some {
			both[label] = true
		}
	}
	return both
}

func (s labels) then(other labels, length int) labels {
	found := labels{}
	for left := range s {
		for right := range other {
			if len(left)+len(right) <= length {
				found[left+right] = true
			}
		}
	}
	return found
}

// times returns labels one after the other, at least so many of them, and as many as can matter.
func (s labels) times(least, length int) labels {
	now, found := labels{"": true}, labels{}
	for n := range length + 2 {
		if n >= least {
			found = found.or(now)
		}
		now = now.then(s, length)
	}
	return found
}

// compareLabels compares labels by their length, and those of one length in byte order.
func compareLabels(a, b string) int {
	if len(a) != len(b) {
		return len(a) - len(b)
	}
	return strings.Compare(a, b)
}

// sorted returns the labels in their order.
func (s labels) sorted() []string {
	var all []string
	for label := range s {
		all = append(all, label)
	}
	slices.SortFunc(all, compareLabels)
	return all
}

// net is a nondeterministic automaton of a REGEX: letters lead from one of its points to another one, and so does nothing at all.
type net struct {
	points     int
	edges      []edge
	begin, end int
}

// edge is taken by one of its letters, or by none if it is free.
type edge struct {
	from, to int
	letters  string
	free     bool
}

func netOf(t *tree) *net {
	n := &net{}
	n.begin, n.end = n.add(t)
	return n
}

// add adds the points and edges of a tree, and returns where it begins and ends (Thompson).
func (n *net) add(t *tree) (int, int) {
	begin, end := n.points, n.points+1
	n.points += 2
	if t.sign == "[" {
		n.edges = append(n.edges, edge{begin, end, t.letters, false})
	}
	if t.sign == "()" || t.sign == "?" || t.sign == "*" {
		n.free(begin, end)
	}
	last := begin
	for _, part := range t.parts {
		from, to := n.add(part)
		n.free(last, from)
		switch t.sign {
		case "":
			last = to
			continue
		case "*", "+":
			n.free(to, from)
		}
		n.free(to, end)
	}
	if t.sign == "" {
		n.free(last, end)
	}
	return begin, end
}

func (n *net) free(from, to int) {
	n.edges = append(n.edges, edge{from, to, "", true})
}

// spread returns the points to which nothing leads from some points, and these, as a text of 0 and 1.
func (n *net) spread(some map[int]bool) string {
	for before := 0; before < len(some); {
		before = len(some)
		for _, e := range n.edges {
			if e.free && some[e.from] {
				some[e.to] = true
			}
		}
	}
	points := make([]byte, n.points)
	for i := range points {
		points[i] = '0'
		if some[i] {
			points[i] = '1'
		}
	}
	return string(points)
}

// after returns the points to which a letter leads.
func (n *net) after(points, letter string) string {
	some := map[int]bool{}
	for _, e := range n.edges {
		if points[e.from] == '1' && strings.Contains(e.letters, letter) {
			some[e.to] = true
		}
	}
	return n.spread(some)
}

// isSide reports whether a tree is made of rules and not of a REGEX.
func (t *tree) isSide() bool {
	return t.sign == "/" || t.sign == "&" || t.sign == "!"
}

// nets returns those of all the REGEX of a rule, in their order.
func (t *tree) nets() []*net {
	if !t.isSide() {
		return []*net{netOf(t)}
	}
	var all []*net
	for _, part := range t.parts {
		all = append(all, part.nets()...)
	}
	return all
}

// holds tells whether a rule holds, given what holds of its REGEX, of which it takes its own ones away.
func (t *tree) holds(found *[]bool) bool {
	if !t.isSide() {
		first := (*found)[0]
		*found = (*found)[1:]
		return first
	}
	var parts []bool
	for _, part := range t.parts {
		parts = append(parts, part.holds(found))
	}
	switch t.sign {
	case "!":
		return !parts[0]
	case "&":
		return parts[0] && parts[1]
	}
	return parts[0] || parts[1]
}

// automaton returns an automaton of a rule, whose states are the points of all its nets; it need not be minimal.
func (t *tree) automaton() api.Machine {
	var m api.Machine
	nets, begin := t.nets(), ""
	for _, n := range nets {
		begin += n.spread(map[int]bool{n.begin: true}) + " "
	}
	states, numbers := []string{begin}, map[string]int{begin: 0}
	for i := 0; i < len(states); i++ {
		all, next := strings.Fields(states[i]), make([]int, 4)
		for k, letter := range []string{"a", "b", "c", "d"} {
			s := ""
			for j, n := range nets {
				s += n.after(all[j], letter) + " "
			}
			if _, known := numbers[s]; !known {
				numbers[s] = len(states)
				states = append(states, s)
			}
			next[k] = numbers[s]
		}
		m.Next = append(m.Next, next)
		m.Accept = append(m.Accept, t.accepts(nets, all))
	}
	return m
}

func (t *tree) accepts(nets []*net, points []string) bool {
	var found []bool
	for j, n := range nets {
		found = append(found, points[j][n.end] == '1')
	}
	return t.holds(&found)
}

// minimal returns the minimal automaton, numbered as the chapter says. The classes of states become finer as long as they do.
func minimal(m api.Machine) api.Machine {
	classes, count := make([]int, len(m.Next)), 0
	for {
		finer, numbers := make([]int, len(m.Next)), map[string]int{}
		for s, next := range m.Next {
			key := fmt.Sprint(m.Accept[s], classes[s], classes[next[0]], classes[next[1]], classes[next[2]], classes[next[3]])
			if _, known := numbers[key]; !known {
				numbers[key] = len(numbers)
			}
			finer[s] = numbers[key]
		}
		if len(numbers) == count {
			return merged(m, classes)
		}
		classes, count = finer, len(numbers)
	}
}

// merged returns the automaton of classes of states, as a breadth-first search reaches them.
func merged(m api.Machine, classes []int) api.Machine {
	var q api.Machine
	states := []int{0}
	numbers := map[int]int{classes[0]: 0}
	for i := 0; i < len(states); i++ {
		next := make([]int, 4)
		for letter, s := range m.Next[states[i]] {
			if _, known := numbers[classes[s]]; !known {
				numbers[classes[s]] = len(states)
				states = append(states, s)
			}
			next[letter] = numbers[classes[s]]
		}
		q.Next = append(q.Next, next)
		q.Accept = append(q.Accept, m.Accept[states[i]])
	}
	return q
}

func equalMachines(m, n api.Machine) bool {
	return slices.Equal(m.Accept, n.Accept) && slices.EqualFunc(m.Next, n.Next, slices.Equal[[]int])
}

// accepts runs an automaton.
func accepts(m api.Machine, label string) bool {
	s := 0
	for _, c := range label {
		s = m.Next[s][c-'a']
	}
	return m.Accept[s]
}

// firstApart returns the first label that two automata do not both accept or both refuse, by a search through all pairs of states.
func firstApart(m, n api.Machine) (string, bool) {
	type pair struct{ left, right int }
	queue, found := []pair{{0, 0}}, map[pair]string{{0, 0}: ""}
	for i := 0; i < len(queue); i++ {
		p := queue[i]
		if m.Accept[p.left] != n.Accept[p.right] {
			return found[p], true
		}
		for letter, c := range []string{"a", "b", "c", "d"} {
			q := pair{m.Next[p.left][letter], n.Next[p.right][letter]}
			if _, known := found[q]; !known {
				found[q] = found[p] + c
				queue = append(queue, q)
			}
		}
	}
	return "", false
}

// ends returns for each state how many labels of a length lead there from state 0.
func ends(m api.Machine, length int) []*big.Int {
	now := zeros(len(m.Next))
	now[0].SetInt64(1)
	for range length {
		now = further(m, now)
	}
	return now
}

func zeros(count int) []*big.Int {
	all := make([]*big.Int, count)
	for i := range all {
		all[i] = new(big.Int)
	}
	return all
}

// further returns the numbers of labels that are longer by a letter.
func further(m api.Machine, now []*big.Int) []*big.Int {
	next := zeros(len(now))
	for s, count := range now {
		for _, other := range m.Next[s] {
			next[other].Add(next[other], count)
		}
	}
	return next
}

// accepted adds up the numbers of accepting states.
func accepted(m api.Machine, numbers []*big.Int) *big.Int {
	sum := new(big.Int)
	for s, count := range numbers {
		if m.Accept[s] {
			sum.Add(sum, count)
		}
	}
	return sum
}

// rankIn returns how many labels that an automaton accepts come before a label, by the labels of each length, and by those that are less.
func rankIn(m api.Machine, label string) *big.Int {
	sum, shorter := new(big.Int), ends(m, 0)
	less, s := zeros(len(m.Next)), 0
	for _, c := range label {
		sum.Add(sum, accepted(m, shorter))
		shorter = further(m, shorter)
		less = further(m, less)
		for letter := range int(c - 'a') {
			other := m.Next[s][letter]
			less[other].Add(less[other], big.NewInt(1))
		}
		s = m.Next[s][c-'a']
	}
	return sum.Add(sum, accepted(m, less))
}
