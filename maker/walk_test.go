package maker_test

import (
	"fmt"
	"math/rand"
	"slices"
	"strings"
	"testing"

	"gamp/maker"
)

// questions are lines that change nothing, and whose replies together show what a workshop remembers.
var questions = append([]string{
	"layers -", "layers V", "layers VM", "layers VVM", "reduce M", "reduce VM", "folds", "patterns",
	"stiff 0 1", "stiff 0 2", "trees", "peel", "chordal", "interval", "cliques",
	"normal a", "normal b", "equal a b", "alexander a", "alexander c", "value", "match",
	"matches a", "matches b ab", "same a b", "same b c", "at a 3", "at c 0", "flight",
}, trials()...)

// trials are questions about the lists that are too long to be shown otherwise, and about the trade.
func trials() []string {
	var all []string
	for i := range 3 {
		all = append(all, fmt.Sprint("stock ", i), fmt.Sprint("try crash ", i), fmt.Sprint("try order ", i, " 0 0 1"))
		for j := range 4 {
			all = append(all, fmt.Sprint("state ", i, " ", j))
		}
	}
	return append(all, "try settle 10", "try move 0 0", "try node most 1", "try cube 0 0 0", "try meet 0 1", "try spring 0 1 1", "try person 0", "try braid d 1", "try rule d a")
}

// shown returns the replies to all questions.
func shown(line func(string) string) string {
	var all strings.Builder
	for _, q := range questions {
		all.WriteString(q + ": " + line(q))
	}
	return all.String()
}

// someOf returns one of the words of a text.
func someOf(r *rand.Rand, words string) string {
	all := strings.Split(words, " ")
	return all[r.Intn(len(all))]
}

// someWord returns a word for a word of the table, now and then one that does not suit.
func someWord(r *rand.Rand, row string) string {
	if r.Intn(60) == 0 {
		return someOf(r, "x 00 -0 01 1/1 2/4 +1 1000000000 -999999999 999999999 12 most try # 1/2 - 1.5")
	}
	switch row {
	case "NAME":
		return someOf(r, "a a a a b b b c # try")
	case "RULE":
		return someOf(r, "a* a+ (ab)* !{a} [ab]* . a&b b/(ab)* (a ")
	case "TEXT":
		return someOf(r, "a ab abab b x")
	case "PATTERN":
		return someOf(r, "- V M VM VV MM MV VMV VVM x")
	case "KIND":
		return someOf(r, "most least chance")
	case "WHAT":
		return someOf(r, "solid game people")
	case "NUM":
		return someOf(r, "1 2 3 1/2 1/2 1/3 2/3 7/5 0 -1 -2/3")
	case "LENGTH", "ANGLE":
		return someOf(r, "1 1 2 3")
	case "K", "ADD":
		return someOf(r, "1 -1 2 -2 3 -5")
	case "N":
		return someOf(r, "1 2 3 3 4 4 5 10")
	case "STOCK":
		return someOf(r, "0 1 3 5 10")
	case "SHOPS":
		return someOf(r, "1 2 2 3")
	case "X", "Y", "Z", "I", "FIRST", "SHOP", "S", "O", "TO":
		return someOf(r, "0 0 0 1 1 2")
	case "ITEM":
		return someOf(r, "0 0 0 0 1")
	}
	return someOf(r, "0 0 0 1 1 1 2 3 -1")
}

// somePeople returns lines for people whose lists suit each other.
func somePeople(r *rand.Rand) []string {
	lines, size := []string{"clear people"}, 1+r.Intn(6)
	for i := range size {
		line := "person"
		for _, p := range r.Perm(size) {
			if p != i {
				line += fmt.Sprint(" ", p)
			}
		}
		lines = append(lines, line)
	}
	return append(lines, "match")
}

// someGame returns lines for a valid game.
func someGame(r *rand.Rand) []string {
	lines, size := []string{"clear game"}, 1+r.Intn(4)
	for i := range size {
		kind := someOf(r, "most least chance")
		lines = append(lines, fmt.Sprint("node ", kind, " ", someOf(r, "0 1 2 1/2 -7/5")))
		for range 2 {
			line := fmt.Sprint("move ", i, " ", r.Intn(size))
			if kind == "chance" {
				line += " 1/2"
			}
			lines = append(lines, line)
		}
	}
	return append(lines, "value")
}

// someNetwork returns lines for a network that is mostly connected.
func someNetwork(r *rand.Rand) []string {
	size := 2 + r.Intn(4)
	lines := []string{fmt.Sprint("knots ", size)}
	for range 2 * size {
		lines = append(lines, fmt.Sprint("spring ", r.Intn(size-1), " ", size-1, " ", someOf(r, "1 2 1/2 5/3")))
	}
	return append(lines, "stiff 0 1", "trees")
}

// someSolid returns lines for a row of cubes.
func someSolid(r *rand.Rand) []string {
	lines := []string{"clear solid"}
	for i := range 1 + r.Intn(3) {
		lines = append(lines, fmt.Sprint("cube 1 ", i, " 1"))
	}
	return append(lines, "peel")
}

// someGraph returns lines for a graph.
func someGraph(r *rand.Rand) []string {
	size := 1 + r.Intn(7)
	lines := []string{fmt.Sprint("ribs ", size)}
	for a := range size {
		for b := range a {
			if r.Intn(2) == 0 {
				lines = append(lines, fmt.Sprint("meet ", a, " ", b))
			}
		}
	}
	return append(lines, "chordal", "interval")
}

// someTrade returns lines for a trade with orders.
func someTrade(r *rand.Rand) []string {
	lines := []string{"shops 3 5 5 5 5 5 5"}
	for range 1 + r.Intn(3) {
		shop := r.Intn(2)
		lines = append(lines, fmt.Sprint("order ", r.Intn(3), " ", shop, " 0 ", 1+r.Intn(4), " ", shop+1, " 1 -", 1+r.Intn(4)))
	}
	return append(lines, "flight")
}

// someScene returns lines that suit each other, about what rows of the table are about.
func someScene(r *rand.Rand, rows []string) []string {
	scenes := map[string]func(*rand.Rand) []string{"match": somePeople, "value": someGame, "trees": someNetwork, "peel": someSolid, "chordal": someGraph, "flight": someTrade}
	scene := scenes[rows[r.Intn(len(rows))]]
	if scene == nil {
		return []string{someLine(r, rows)}
	}
	return scene(r)
}

// someLine returns a line of one of some rows of the table, now and then with a mistake, or one that is only tried.
func someLine(r *rand.Rand, rows []string) string {
	row := rows[r.Intn(len(rows))]
	words := written(row, len(strings.Split(row, " "))+r.Intn(3)-1)
	for i := range words[1:] {
		words[i+1] = someWord(r, words[i+1])
	}
	line := strings.Join(words, " ")
	switch r.Intn(40) {
	case 0:
		i := r.Intn(len(line) + 1)
		line = line[:i] + someOf(r, "  # 1 try  x -") + line[i:]
	case 1:
		i := r.Intn(len(line) + 1)
		line = line[:i] + " " + line[i:]
	case 2:
		i := r.Intn(len(line))
		line = line[:i] + line[i+1:]
	case 3:
		line = someOf(r, "# #try try trying folds\t") + line
	case 4, 5, 6, 7:
		line = "try " + line
	case 8:
		line += "\n" + someOf(r, "strip cube x")
	}
	return line
}

// rowsOf returns the rows of the table of some commands.
func rowsOf(commands string) []string {
	return slices.DeleteFunc(slices.Clone(table), func(row string) bool {
		return !slices.Contains(strings.Split(commands, " "), strings.Split(row, " ")[0])
	})
}

// subjects are groups of rows, so that walks go deep as well as wide.
func subjects() [][]string {
	return [][]string{
		table,
		rowsOf("strip layers reduce folds vertex patterns"),
		rowsOf("knots spring spring spring stiff trees"),
		rowsOf("cube peel clear"),
		rowsOf("ribs meet chordal interval cliques"),
		rowsOf("strands braid normal equal alexander"),
		rowsOf("node move discount value"),
		rowsOf("node move discount value clear"),
		rowsOf("person match"),
		rowsOf("person match clear"),
		rowsOf("rule matches same at"),
		rowsOf("shops order deliver drop copy crash restart tick settle flight stock state"),
		rowsOf("order deliver drop copy crash restart tick settle flight stock state"),
	}
}

// pieces returns all lines of a walk.
func pieces(r *rand.Rand, rows []string, size int) []string {
	var lines []string
	for len(lines) < size {
		if r.Intn(8) == 0 {
			lines = append(lines, someScene(r, rows)...)
		} else {
			lines = append(lines, someLine(r, rows))
		}
	}
	return lines
}

// H1: the replies are those of the functions for the state that the lines before have brought about.
func TestWalks(t *testing.T) {
	count := map[string]int{}
	for n, rows := range subjects() {
		for seed := range int64(60) {
			r := rand.New(rand.NewSource(1000*int64(n) + seed))
			m, x := maker.New(), &model{}
			for _, line := range pieces(r, rows, 60) {
				found, want := m.Line(line), x.line(line)
				if found != want {
					t.Fatalf("after %q\n%q = %q, not %q", x.past, line, found, want)
				}
				if !strings.HasPrefix(found, "!") {
					count[strings.Split(line, " ")[0]]++
				}
			}
			if found, want := shown(m.Line), shown(x.line); found != want {
				t.Fatalf("after %q:\n%s\nnot\n%s", x.past, found, want)
			}
		}
	}
	for _, row := range table {
		if name := strings.Split(row, " ")[0]; count[name] < 40 {
			t.Errorf("only %d lines %q were done", count[name], name)
		}
	}
}

// Run replies what the lines do one by one, whether the last one ends in a newline or not.
func TestRunWalks(t *testing.T) {
	for seed := range int64(40) {
		r := rand.New(rand.NewSource(seed))
		x, text, want := &model{}, "", ""
		for _, line := range pieces(r, table, 100) {
			line = strings.Split(line, "\n")[0]
			text += line + "\n"
			want += x.line(line)
		}
		run(t, text, want)
		run(t, text+"flight", want+x.line("flight"))
		run(t, "\n\n"+text+"\n", want)
	}
}
