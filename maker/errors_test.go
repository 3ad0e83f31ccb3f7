package maker_test

import (
	"fmt"
	"math/big"
	"math/rand"
	"slices"
	"strings"
	"testing"

	"gamp/api"
	"gamp/maker"
)

// examples returns words that suit a word of the table, and others that do not.
func examples(row string) (suited, others []string) {
	switch row {
	case "NUM":
		return []string{"0", "7", "-1", "1/2", "-3/2", "1000000000", "123456789012345678901234567890", "-9/1000000000000000000001", "10/3"},
			[]string{"00", "-0", "01", "1/1", "0/2", "2/4", "6/9", "1/0", "1/-2", "-", "/", "1/", "/2", "1.5", "+1", "--1", "1/2/3", "1/02", "x", "1e3", "1000000000000000000000/1000000000000000000000", "0x1", "1_0", "٣", "1\t"}
	case "NAME", "RULE", "TEXT", "PATTERN":
		return nil, nil // any word
	case "KIND":
		return []string{"most", "least", "chance"}, []string{"mos", "Most", "1", "leastt", "-", "solid"}
	case "WHAT":
		return []string{"solid", "game", "people"}, []string{"strip", "Solid", "games", "-", "0", "most"}
	}
	return []string{"0", "7", "-1", "999999999", "-999999999", "10"},
		[]string{"00", "-0", "01", "-01", "1000000000", "-1000000000", "0000000001", "99999999999999999999", "-", "--1", "+1", "1/2", "2/1", "1.0", "x", "1x", "0x1", "1_0", "٣", "1\t", "\t1"}
}

// ordinary returns words that a line of the table is done with, or refused for another reason than its words.
func ordinary(row string) []string {
	words := written(row, 0)
	for i := range words[1:] {
		suited, _ := examples(words[i+1])
		words[i+1] = append(suited, "a")[0]
	}
	return words
}

func refused(t *testing.T, line string, want bool) {
	t.Helper()
	m := maker.New()
	m.Line("braid a 1")
	m.Line("rule a a*")
	if found := m.Line(line); (found == "! 2\n") != want {
		t.Errorf("%q: %q", line, found)
	}
}

// Of all rows of the table: each word must be as it says.
func TestWords(t *testing.T) {
	for _, row := range table {
		words := ordinary(row)
		form := written(row, len(words))
		for i := 1; i < len(words); i++ {
			suited, others := examples(form[i])
			for _, word := range append(suited, others...) {
				changed := slices.Clone(words)
				changed[i] = word
				refused(t, strings.Join(changed, " "), slices.Contains(others, word))
			}
		}
	}
}

// Of all rows of the table: there must be as many words as it says, each behind one blank.
func TestNumberOfWords(t *testing.T) {
	for _, row := range table {
		words := append(ordinary(row), "1", "1", "1", "1", "1")
		for size := range len(words) {
			some := words[:size+1]
			if !slices.ContainsFunc(table, func(row string) bool { return isWritten(row, some) }) {
				refused(t, strings.Join(some, " "), true)
			}
		}
		line := strings.Join(ordinary(row), " ")
		refused(t, line, false)
		for i := range len(line) + 1 {
			if i == 0 || i == len(line) || line[i] == ' ' {
				refused(t, line[:i]+" "+line[i:], true)
			}
		}
	}
}

// A first word that is no command.
func TestUnknownCommands(t *testing.T) {
	for _, line := range []string{"x", "Folds", "fold", "foldss", "-", "0", "!", "!2", "\t", " ", "  ", " folds", "folds ", " # x", "folds\t", "folds\r", "\x00", "\xff", "tr", "tryy", "try", "try ", "try  ", "try\tfolds", "Try folds", "trys folds", "order", "shops", "clear", "move", "matches", "FOLDS"} {
		refused(t, line, true)
		refused(t, "try "+line, true)
	}
}

// Each error that the table names, and some of those of the functions.
func TestErrors(t *testing.T) {
	for _, c := range []struct {
		before, line string
		want         api.Errno
	}{
		{"", "folds", api.ErrArg},
		{"", "layers x", api.ErrArg},
		{"strip 1 1", "layers x", api.ErrForm},
		{"strip 1 1", "layers -", api.ErrForm},
		{"strip 1 1", "reduce VV", api.ErrForm},
		{"strip 1 1 1 1 1 1 1 1 1 1", "folds", api.ErrArg},
		{"strip 1 1001", "folds", api.ErrArg},
		{"strip 0", "folds", api.ErrArg},
		{"", "reduce V", api.ErrArg},
		{"", "patterns", api.ErrArg},
		{"vertex 1", "patterns", api.ErrArg},
		{"strip 3 1 3", "layers VV", api.ErrNone},

		{"", "knots 1", api.ErrArg},
		{"", "knots 0", api.ErrArg},
		{"", "knots -5", api.ErrArg},
		{"", "knots 2", api.OK},
		{"", "knots 10", api.OK},
		{"", "knots 11", api.ErrArg},
		{"", "stiff 0 1", api.ErrNone},
		{"spring 0 1 1", "stiff 0 2", api.ErrArg},
		{"spring 0 2 1", "stiff 0 1", api.ErrArg},
		{"spring 0 2 1", "trees", api.ErrArg},
		{"spring 0 1 0", "trees", api.ErrArg},
		{"spring 0 1 123456789012345678901", "trees", api.ErrArg},
		{"spring 0 1 12345678901234567890", "trees", api.OK},

		{"", "peel", api.ErrArg},
		{"cube 0 0 5", "peel", api.ErrArg},
		{"cube 0 0 -1", "peel", api.ErrArg},
		{"cube 0 0 4\ncube 0 0 4", "peel", api.ErrArg},

		{"", "ribs 0", api.ErrArg},
		{"", "ribs -1", api.ErrArg},
		{"", "ribs 1", api.OK},
		{"", "ribs 12", api.OK},
		{"", "ribs 13", api.ErrArg},
		{"meet 0 1", "chordal", api.ErrArg},
		{"meet 0 1", "interval", api.ErrArg},
		{"meet 0 0", "cliques", api.ErrArg},

		{"", "strands 1", api.ErrArg},
		{"", "strands 2", api.OK},
		{"", "strands 8", api.OK},
		{"", "strands 9", api.ErrArg},
		{"", "braid a 3", api.ErrForm},
		{"", "braid a 0", api.ErrForm},
		{"", "braid a 1 -2" + strings.Repeat(" 1", 58), api.OK},
		{"", "braid a 1 -2" + strings.Repeat(" 1", 59), api.ErrLong},
		{"", "braid a 1 -3" + strings.Repeat(" 1", 59), api.ErrForm},
		{"", "normal a", api.ErrName},
		{"", "alexander a", api.ErrName},
		{"", "equal a a", api.ErrName},
		{"braid a 1", "equal a b", api.ErrName},
		{"braid a 1", "equal b a", api.ErrName},
		{"braid a 1", "equal A a", api.ErrName},
		{"braid a" + strings.Repeat(" 1", 24), "alexander a", api.OK},
		{"braid a" + strings.Repeat(" 1", 25), "alexander a", api.ErrLong},

		{"", "move 0 0", api.ErrArg},
		{"node most 1", "move 1 0", api.ErrArg},
		{"node most 1", "move -1 0", api.ErrArg},
		{"node most 1", "move 0 -7", api.OK},
		{"node most 1\nmove 0 1", "value", api.ErrArg},
		{"node most 1\nmove 0 0 1", "value", api.ErrArg},
		{"node chance 1\nmove 0 0", "value", api.ErrArg},
		{"node most 1\nmove 0 0\ndiscount 1", "value", api.ErrArg},
		{"node most 1\nmove 0 0\ndiscount -1/2", "value", api.ErrArg},
		{"node most 1234567890123\nmove 0 0", "value", api.ErrArg},
		{"", "value", api.ErrArg},

		{"", "match", api.ErrArg},
		{"person 1", "match", api.ErrArg},
		{"person 0", "match", api.ErrArg},

		{"", "rule a (", api.ErrForm},
		{"", "rule a " + strings.Repeat("(", 101), api.ErrLong},
		{"", "rule a " + strings.Repeat("a", 12), api.OK},
		{"", "rule a " + strings.Repeat("a", 13), api.ErrLong},
		{"", "matches a", api.ErrName},
		{"", "matches a x", api.ErrName},
		{"rule a a", "matches a x", api.ErrForm},
		{"", "same a a", api.ErrName},
		{"rule a a", "same a b", api.ErrName},
		{"rule a a", "same b a", api.ErrName},
		{"", "at a -1", api.ErrName},
		{"", "at a x", api.ErrForm},
		{"rule a a", "at a -1", api.ErrArg},
		{"rule a a", "at a 1/2", api.ErrArg},
		{"rule a a*", "at a " + strings.Repeat("9", 40), api.ErrRange},
		{"rule a a*", "at a " + strings.Repeat("9", 41), api.ErrArg},
		{"rule a a", "at a 1", api.ErrNone},

		{"", "shops 1", api.ErrArg},
		{"", "shops 0", api.ErrArg},
		{"", "shops 0 1", api.ErrArg},
		{"", "shops -1 1", api.ErrArg},
		{"", "shops 2 1", api.ErrArg},
		{"", "shops 2 1 1 1", api.ErrArg},
		{"", "shops 999999999 1", api.ErrArg},
		{"", "shops 5 1 1 1 1 1", api.OK},
		{"", "shops 6 1 1 1 1 1 1", api.ErrArg},
		{"", "shops 1 1 1 1 1 1 1 1 1", api.OK},
		{"", "shops 1 1 1 1 1 1 1 1 1 1", api.ErrArg},
		{"", "shops 1 10001", api.ErrArg},
		{"", "shops 1 -1", api.ErrArg},
		{"", "shops 1 10000", api.OK},
		{"", "order 0 0 0 0", api.ErrArg},
		{"", "order 2 0 0 1", api.ErrArg},
		{"", "order 0 2 0 1", api.ErrArg},
		{"", "order 0 0 1 1", api.ErrArg},
		{"", "order 0 0 0 10000", api.OK},
		{"", "order 0 0 0 10001", api.ErrArg},
		{"", "order 0 0 0 1 0 0 1", api.ErrArg},
		{"crash 0", "order 0 0 0 1", api.ErrDown},
		{"crash 0", "order 0 0 0 0", api.ErrArg},
		{"crash 0", "order 1 0 0 1", api.OK},
		{"", "deliver 0", api.ErrArg},
		{"", "drop 0", api.ErrArg},
		{"", "copy 0", api.ErrArg},
		{"order 0 0 0 1", "deliver 1", api.ErrArg},
		{"order 0 0 0 1", "drop -1", api.ErrArg},
		{"order 0 0 0 1", "copy 0", api.OK},
		{"", "crash 2", api.ErrArg},
		{"crash 1", "crash 1", api.ErrDown},
		{"", "restart 1", api.ErrState},
		{"", "restart 2", api.ErrArg},
		{"crash 1", "restart 1", api.OK},
		{"crash 1", "tick 1", api.ErrDown},
		{"", "tick -1", api.ErrArg},
		{"", "settle -1", api.ErrArg},
		{"", "settle 1001", api.ErrArg},
		{"", "settle 1000", api.OK},
		{"", "stock 2", api.ErrArg},
		{"", "state 0 0", api.ErrArg},
		{"order 0 0 0 1", "state 2 0", api.ErrArg},
		{"order 0 0 0 1", "state 1 0", api.OK},
		{"order 0 0 0 1", "state 0 1", api.ErrArg},
	} {
		m := maker.New()
		for _, line := range strings.Split(c.before, "\n") {
			if found := m.Line(line); strings.HasPrefix(found, "!") {
				t.Errorf("%q: %q", line, found)
			}
		}
		before := shown(m.Line)
		found := m.Line("try " + c.line)
		if found != m.Line(c.line) {
			t.Errorf("after %q: try %q is not %q", c.before, c.line, found)
		}
		if c.want == api.OK {
			if strings.HasPrefix(found, "!") {
				t.Errorf("after %q: %q: %q", c.before, c.line, found)
			}
			continue
		}
		if found != fmt.Sprintf("! %d\n", int(c.want)) {
			t.Errorf("after %q: %q: %q, not ! %d", c.before, c.line, found, int(c.want))
		}
		if shown(m.Line) != before {
			t.Errorf("after %q: %q changes something", c.before, c.line)
		}
	}
}

// A Maker that New or Clone did not return.
func TestOtherMakers(t *testing.T) {
	copied := *maker.New()
	for _, m := range []*maker.Maker{nil, {}, new(maker.Maker), &copied} {
		for _, line := range []string{"", "# x", "folds", "stock 0", "try stock 0", "try", "x", " ", "\n", strings.Repeat("x", 2000)} {
			if found := m.Line(line); found != "! 6\n" {
				t.Errorf("%q: %q", line, found)
			}
		}
		if m.Clone() != nil {
			t.Error("Clone is not nil")
		}
	}
}

// Fractions, short and long ones, are Nums exactly if they are in lowest terms.
func TestFractions(t *testing.T) {
	r := rand.New(rand.NewSource(1))
	lowest := 0
	for i := range 600 {
		most := new(big.Int).Exp(big.NewInt(10), big.NewInt(int64(1+i%480)), nil)
		word := fmt.Sprint(new(big.Int).Rand(r, most), "/", new(big.Int).Rand(r, most))
		if r.Intn(2) == 0 {
			word = "-" + word
		}
		if isNum(word) {
			lowest++
		}
		refused(t, "discount "+word, !isNum(word))
	}
	if lowest < 100 || lowest > 500 {
		t.Errorf("%d of 600 are in lowest terms", lowest)
	}
}
