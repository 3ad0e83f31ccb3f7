package maker_test

import (
	"fmt"
	"math/big"
	"regexp"
	"slices"
	"strconv"
	"strings"

	"gamp/api"
	"gamp/catch"
	"gamp/fold"
	"gamp/pair"
	"gamp/pledge"
	"gamp/rib"
	"gamp/spring"
	"gamp/strap"
	"gamp/unfold"
	"gamp/wind"
)

// table is the lines of the chapter's table, but for try.
var table = []string{
	"strip LENGTH ...", "layers PATTERN", "reduce PATTERN", "folds", "vertex ANGLE ...", "patterns",
	"knots N", "spring A B NUM", "stiff A B", "trees",
	"cube X Y Z", "peel",
	"ribs N", "meet A B", "chordal", "interval", "cliques",
	"strands N", "braid NAME K ...", "normal NAME", "equal NAME NAME", "alexander NAME",
	"node KIND NUM", "move S TO", "move S TO NUM", "discount NUM", "value",
	"person P ...", "match",
	"rule NAME RULE", "matches NAME TEXT", "matches NAME", "same NAME NAME", "at NAME NUM",
	"shops SHOPS STOCK ...", "order FIRST SHOP ITEM ADD ...",
	"deliver I", "drop I", "copy I", "crash S", "restart S", "tick S", "settle N", "flight", "stock S", "state S O",
	"clear WHAT",
}

var numberPattern = regexp.MustCompile(`^(0|-?[1-9][0-9]{0,8})$`)

var numPattern = regexp.MustCompile(`^-?[0-9]+(/[0-9]+)?$`)

// isNum reports whether a word is a valid Num: what denotes its number in lowest terms is the word itself.
func isNum(word string) bool {
	if !numPattern.MatchString(word) {
		return false
	}
	r, ok := new(big.Rat).SetString(word)
	return ok && r.RatString() == word
}

// suits reports whether a word can stand for a word of the table.
func suits(row, word string) bool {
	switch row {
	case "NUM":
		return isNum(word)
	case "NAME", "RULE", "TEXT", "PATTERN":
		return word != ""
	case "KIND":
		return word == "most" || word == "least" || word == "chance"
	case "WHAT":
		return word == "solid" || word == "game" || word == "people"
	}
	return numberPattern.MatchString(word)
}

// written returns the words of a line of the table that are to be found in a line of so many words.
func written(row string, words int) []string {
	if row == "order FIRST SHOP ITEM ADD ..." {
		form := []string{"order", "FIRST", "SHOP", "ITEM", "ADD"}
		for len(form) < words {
			form = append(form, "SHOP", "ITEM", "ADD")
		}
		return form
	}
	form := strings.Split(row, " ")
	if last := len(form) - 1; form[last] == "..." {
		repeated := form[last-1]
		form = form[:last-1]
		for len(form) < words {
			form = append(form, repeated)
		}
	}
	return form
}

// isWritten reports whether a line is as a line of the table says.
func isWritten(row string, words []string) bool {
	form := written(row, len(words))
	if len(form) != len(words) || form[0] != words[0] {
		return false
	}
	for i := range words[1:] {
		if !suits(form[i+1], words[i+1]) {
			return false
		}
	}
	return true
}

// model is a workshop by the words of the chapter: all that it remembers is the lines that changed something.
type model struct {
	past []string
}

func (m *model) clone() *model {
	return &model{slices.Clone(m.past)}
}

func failure(e api.Errno) string {
	return fmt.Sprintf("! %d\n", int(e))
}

func (m *model) line(s string) string {
	s = strings.Split(s, "\n")[0]
	if len(s) > 1000 {
		return failure(api.ErrLong)
	}
	if s == "" || strings.HasPrefix(s, "#") {
		return ""
	}
	words := strings.Split(s, " ")
	if words[0] == "try" {
		if len(words) < 2 || s == "try " || words[1] == "try" {
			return failure(api.ErrForm)
		}
		return m.clone().line(s[4:])
	}
	if !slices.ContainsFunc(table, func(row string) bool { return isWritten(row, words) }) {
		return failure(api.ErrForm)
	}
	b := newBench()
	for _, p := range m.past {
		b.do(strings.Split(p, " "))
	}
	reply, e := b.do(words)
	if e != api.OK {
		return failure(e)
	}
	if changes(words[0]) {
		m.past = append(m.past, s)
	}
	return reply
}

func changes(command string) bool {
	return slices.Contains(strings.Split("strip vertex knots spring cube ribs meet strands braid node move discount person rule shops order deliver drop copy crash restart tick settle clear", " "), command)
}

// bench is the state of a workshop.
type bench struct {
	strip, vertex        []int
	knots, ribs, strands int
	springs              []api.Spring
	solid                []api.Cell
	edges                []api.Pair
	braids               map[string][]int
	game                 []api.Node
	discount             api.Num
	ranks                [][]int
	rules                map[string]string
	trade                *pledge.Trade
}

func newBench() *bench {
	trade, _ := pledge.New([][]int{{10}, {10}})
	return &bench{knots: 2, ribs: 1, strands: 3, braids: map[string][]int{}, discount: "1/2", rules: map[string]string{}, trade: trade}
}

// listed is a line of a reply.
func listed(first string, list any) string {
	inner := strings.Trim(fmt.Sprint(list), "[]")
	return strings.TrimSuffix(first+" "+inner, " ") + "\n"
}

func answer(yes bool) string {
	return map[bool]string{true: "yes\n", false: "no\n"}[yes]
}

// do does a line that is as the table says.
func (b *bench) do(w []string) (string, api.Errno) {
	var n []int // the words as numbers, where they are numbers
	for _, word := range w {
		i, _ := strconv.Atoi(word)
		n = append(n, i)
	}
	switch w[0] {
	case "strip", "layers", "reduce", "folds", "vertex", "patterns":
		return b.cloth(w, n)
	case "knots", "spring", "stiff", "trees":
		return b.network(w, n)
	case "cube", "peel":
		return b.cells(w, n)
	case "ribs", "meet", "chordal", "interval", "cliques":
		return b.graph(w, n)
	case "strands", "braid", "normal", "equal", "alexander":
		return b.straps(w, n)
	case "node", "move", "discount", "value":
		return b.weather(w, n)
	case "person", "match":
		return b.folk(w, n)
	case "rule", "matches", "same", "at":
		return b.labels(w)
	case "clear":
		switch w[1] {
		case "solid":
			b.solid = nil
		case "game":
			b.game, b.discount = nil, "1/2"
		case "people":
			b.ranks = nil
		}
		return "", api.OK
	}
	return b.dealing(w, n)
}

func (b *bench) cloth(w []string, n []int) (string, api.Errno) {
	pattern := ""
	if len(w) == 2 && w[1] != "-" {
		pattern = w[1]
	}
	switch w[0] {
	case "strip":
		b.strip = n[1:]
	case "vertex":
		b.vertex = n[1:]
	case "layers":
		order, e := fold.Layers(b.strip, pattern)
		return listed("layers", order), e
	case "reduce":
		rest, left, e := fold.Reduce(b.strip, pattern)
		if left == "" {
			left = "-"
		}
		return listed("rest", rest) + "pattern " + left + "\n", e
	case "folds":
		count, e := fold.Count(b.strip)
		return listed("folds", count), e
	case "patterns":
		all, e := fold.Patterns(b.vertex)
		reply := ""
		for _, p := range all {
			reply += "pattern " + p + "\n"
		}
		return reply, e
	}
	return "", api.OK
}

func (b *bench) network(w []string, n []int) (string, api.Errno) {
	switch w[0] {
	case "knots":
		if n[1] < 2 || n[1] > 10 {
			return "", api.ErrArg
		}
		b.knots, b.springs = n[1], nil
	case "spring":
		if len(b.springs) == 40 {
			return "", api.ErrFull
		}
		b.springs = append(b.springs, api.Spring{A: n[1], B: n[2], K: api.Num(w[3])})
	case "stiff":
		stiff, e := spring.Between(b.knots, b.springs, n[1], n[2])
		flow, f := spring.Flow(b.knots, b.springs, n[1], n[2])
		return listed("stiff", stiff) + listed("flow", flow), max(e, f)
	case "trees":
		weight, e := spring.Trees(b.knots, b.springs)
		return listed("trees", weight), e
	}
	return "", api.OK
}

func (b *bench) cells(w []string, n []int) (string, api.Errno) {
	if w[0] == "cube" {
		if len(b.solid) == 6 {
			return "", api.ErrFull
		}
		b.solid = append(b.solid, api.Cell{X: n[1], Y: n[2], Z: n[3]})
		return "", api.OK
	}
	tree, e := unfold.Peel(b.solid)
	if e != api.OK {
		return "", e
	}
	spots, e := unfold.Lay(b.solid, tree)
	reply, last := "", "spots"
	for _, j := range tree {
		reply += fmt.Sprintf("joint %d %d\n", j.A, j.B)
	}
	for _, s := range spots {
		last += fmt.Sprintf(" %d %d", s.X, s.Y)
	}
	return reply + last + "\n", e
}

func (b *bench) graph(w []string, n []int) (string, api.Errno) {
	_, noOrder := rib.Order(b.ribs, b.edges)
	_, noSpans := rib.Spans(b.ribs, b.edges)
	switch w[0] {
	case "ribs":
		if n[1] < 1 || n[1] > 12 {
			return "", api.ErrArg
		}
		b.ribs, b.edges = n[1], nil
	case "meet":
		if len(b.edges) == 66 {
			return "", api.ErrFull
		}
		slices.Sort(n[1:])
		b.edges = append(b.edges, api.Pair{A: n[1], B: n[2]})
	case "chordal":
		if noOrder == api.ErrNone {
			return "no\n", api.OK
		}
		return "yes\n", noOrder
	case "interval":
		switch {
		case noSpans != api.ErrNone:
			return "yes\n", noSpans
		case noOrder == api.ErrNone:
			return "no\n", api.OK
		}
		triple, e := rib.Triple(b.ribs, b.edges)
		return "no\n" + listed("triple", triple), e
	case "cliques":
		cliques, e := rib.Cliques(b.ribs, b.edges)
		reply := ""
		for _, c := range cliques {
			reply += listed("clique", c)
		}
		return reply, e
	}
	return "", api.OK
}

func (b *bench) straps(w []string, n []int) (string, api.Errno) {
	switch w[0] {
	case "strands":
		if n[1] < 2 || n[1] > 8 {
			return "", api.ErrArg
		}
		b.strands, b.braids = n[1], map[string][]int{}
		return "", api.OK
	case "braid":
		if _, e := strap.Perm(b.strands, n[2:]); e != api.OK {
			return "", e
		}
		if b.braids[w[1]] == nil && len(b.braids) == 20 {
			return "", api.ErrFull
		}
		b.braids[w[1]] = n[2:]
		return "", api.OK
	}
	for _, name := range w[1:] {
		if b.braids[name] == nil {
			return "", api.ErrName
		}
	}
	word := b.braids[w[1]]
	switch w[0] {
	case "equal":
		same, e := strap.Equal(b.strands, word, b.braids[w[2]])
		return answer(same), e
	case "alexander":
		loops, e := strap.Loops(b.strands, word)
		p, f := strap.Alexander(b.strands, word)
		return listed("loops", loops) + listed("alexander", p.Coef), max(e, f)
	}
	normal, e := strap.Normal(b.strands, word)
	reply := listed("power", normal.Power)
	for _, f := range normal.Factors {
		reply += listed("factor", f)
	}
	return reply, e
}

func (b *bench) weather(w []string, n []int) (string, api.Errno) {
	switch w[0] {
	case "node":
		if len(b.game) == 10 {
			return "", api.ErrFull
		}
		kind := map[string]int{"most": api.Most, "least": api.Least, "chance": api.Chance}[w[1]]
		b.game = append(b.game, api.Node{Kind: kind, Reward: api.Num(w[2])})
	case "move":
		if n[1] < 0 || n[1] >= len(b.game) {
			return "", api.ErrArg
		}
		if len(b.game[n[1]].Moves) == 6 {
			return "", api.ErrFull
		}
		b.game[n[1]].Moves = append(b.game[n[1]].Moves, api.Move{To: n[2], Odds: api.Num(strings.Join(w[3:], ""))})
	case "discount":
		b.discount = api.Num(w[1])
	case "value":
		values, e := wind.Value(b.game, b.discount)
		if e != api.OK {
			return "", e
		}
		plan, e := wind.Best(b.game, b.discount)
		return listed("value", values) + listed("best", plan), e
	}
	return "", api.OK
}

func (b *bench) folk(w []string, n []int) (string, api.Errno) {
	if w[0] == "person" {
		if len(b.ranks) == 24 {
			return "", api.ErrFull
		}
		b.ranks = append(b.ranks, n[1:])
		return "", api.OK
	}
	match, e := pair.Match(b.ranks)
	if e != api.ErrNone {
		return listed("match", match), e
	}
	parties, e := pair.Odd(b.ranks)
	reply := ""
	for _, p := range parties {
		reply += listed("odd", p)
	}
	return reply, e
}

func (b *bench) labels(w []string) (string, api.Errno) {
	rule, known := b.rules[w[1]]
	if w[0] == "rule" {
		if e := catch.Check(w[2]); e != api.OK {
			return "", e
		}
		if !known && len(b.rules) == 20 {
			return "", api.ErrFull
		}
		b.rules[w[1]] = w[2]
		return "", api.OK
	}
	if !known {
		return "", api.ErrName
	}
	switch w[0] {
	case "matches":
		ok, e := catch.Match(rule, strings.Join(w[2:], ""))
		return answer(ok), e
	case "at":
		label, e := catch.At(rule, api.Num(w[2]))
		return listed("text", label), e
	}
	other, known := b.rules[w[2]]
	if !known {
		return "", api.ErrName
	}
	same, label, e := catch.Same(rule, other)
	if same {
		return "yes\n", e
	}
	return listed("no", label), e
}

func (b *bench) dealing(w []string, n []int) (string, api.Errno) {
	switch w[0] {
	case "shops":
		if n[1] < 1 || len(n) == 2 || (len(n)-2)%n[1] != 0 {
			return "", api.ErrArg
		}
		stock := make([][]int, n[1])
		for i, s := range n[2:] {
			shop := i / ((len(n) - 2) / n[1])
			stock[shop] = append(stock[shop], s)
		}
		trade, e := pledge.New(stock)
		if e == api.OK {
			b.trade = trade
		}
		return "", e
	case "order":
		var changes []api.Change
		for i := 2; i < len(n); i += 3 {
			changes = append(changes, api.Change{Shop: n[i], Item: n[i+1], Add: n[i+2]})
		}
		order, e := b.trade.Submit(n[1], changes)
		return listed("order", order), e
	case "deliver":
		return "", b.trade.Deliver(n[1])
	case "drop":
		return "", b.trade.Lose(n[1])
	case "copy":
		return "", b.trade.Copy(n[1])
	case "crash":
		return "", b.trade.Crash(n[1])
	case "restart":
		return "", b.trade.Restart(n[1])
	case "tick":
		return "", b.trade.Tick(n[1])
	case "settle":
		rests, e := b.trade.Settle(n[1])
		return answer(rests), e
	case "stock":
		stock, e := b.trade.Stock(n[1])
		return listed("stock", stock), e
	case "state":
		state, e := b.trade.State(n[1], n[2])
		decision, _ := b.trade.Decision(n[2])
		return listed("state", state) + listed("decision", decision), e
	}
	reply := ""
	for _, f := range b.trade.Flight() {
		reply += fmt.Sprintf("message %d %d %d %d\n", f.Kind, f.From, f.To, f.Order)
	}
	return reply, api.OK
}
