package maker_test

import (
	"fmt"
	"strings"
	"testing"

	"gamp/api"
	"gamp/maker"
)

// A line of 1000 bytes is a line, a longer one is not, whatever else it is.
func TestMaxLine(t *testing.T) {
	for _, c := range []struct{ line, want string }{
		{"strip 10" + strings.Repeat(" 1", 496), ""},
		{"#" + strings.Repeat(" ", 999), ""},
		{strings.Repeat("x", 1000), "! 2\n"},
		{strings.Repeat(" ", 1000), "! 2\n"},
		{"try strip" + strings.Repeat(" 1", 495) + "0", ""},
		{"try #" + strings.Repeat("x", 995), ""},
		{"try try " + strings.Repeat("x", 992), "! 2\n"},
		{"matches " + strings.Repeat("r", 992), "! 9\n"},
		{"rule " + strings.Repeat("r", 992) + " a*", ""},
		{"matches r " + strings.Repeat("a", 990), "yes\n"},
		{"spring 0 1 1/" + strings.Repeat("9", 987), ""},
	} {
		m := maker.New()
		m.Line("rule r a*")
		if len(c.line) != 1000 {
			t.Errorf("%.20q has %d bytes", c.line, len(c.line))
		}
		if found := m.Line(c.line); found != c.want {
			t.Errorf("%.20q: %q, not %q", c.line, found, c.want)
		}
		for _, longer := range []string{c.line + "1", c.line + " ", "try " + c.line, c.line + strings.Repeat("1", 5000)} {
			if found := m.Line(longer); found != "! 3\n" {
				t.Errorf("%.20q of %d bytes: %q", longer, len(longer), found)
			}
		}
	}
	if found := maker.New().Line("#" + strings.Repeat("x", 1000)); found != "! 3\n" {
		t.Errorf("a remark of 1001 bytes: %q", found)
	}
}

// A longer line that is refused changes nothing.
func TestLongLinesChangeNothing(t *testing.T) {
	m := maker.New()
	m.Line("strip 1 1")
	m.Line("strip" + strings.Repeat(" 1", 500))
	m.Line("try strip" + strings.Repeat(" 1", 500))
	if found := m.Line("folds"); found != "folds 2\n" {
		t.Error(found)
	}
}

func TestMaxLines(t *testing.T) {
	for _, c := range []struct {
		text string
		want api.Errno
	}{
		{strings.Repeat("\n", 2000), api.OK},
		{strings.Repeat("\n", 2001), api.ErrLong},
		{strings.Repeat("\n", 2000) + "#", api.ErrLong},
		{strings.Repeat("\n", 1999) + "#", api.OK},
		{strings.Repeat("#\n", 2000), api.OK},
		{strings.Repeat("#\n", 2000) + " ", api.ErrLong},
		{strings.Repeat("stock 0\n", 2001), api.ErrLong},
		{strings.Repeat("x", 1001), api.OK},
		{strings.Repeat("\n", 100000), api.ErrLong},
	} {
		found, e := maker.Run(c.text)
		if e != c.want || e != api.OK && found != "" {
			t.Errorf("%.10q of %d bytes: %q, %d", c.text, len(c.text), found, e)
		}
	}
	found, e := maker.Run(strings.Repeat("stock 0\n", 1999) + "stock 1")
	if e != api.OK || found != strings.Repeat("stock 10\n", 2000) {
		t.Errorf("2000 lines: %d bytes, %d", len(found), e)
	}
	found, e = maker.Run(strings.Repeat("x", 3000) + "\n" + strings.Repeat("\n", 1998) + "stock 0")
	if e != api.OK || found != "! 3\nstock 10\n" {
		t.Errorf("2000 lines with a long one: %q, %d", found, e)
	}
}

// Lists that are full take nothing more, and what makes them empty makes them take as much as at first.
func TestFull(t *testing.T) {
	for _, c := range []struct {
		before, line string
		most         int
		empty        string
	}{
		{"", "spring 0 1 1", 40, "knots 2"},
		{"knots 9", "spring 0 0 -1", 40, "knots 10"},
		{"", "cube 0 0 0", 6, "clear solid"},
		{"", "meet 0 1", 66, "ribs 12"},
		{"", "node most 1", 10, "clear game"},
		{"node least 1\nnode chance 1", "move 1 0", 6, ""},
		{"node least 1\nnode chance 1\nmove 1 1\nmove 1 1", "move 0 0 1/2", 6, ""},
		{"", "person", 24, "clear people"},
		{"", "person 1 2", 24, "clear people"},
		{"", "order 0 1 0 1", 200, "shops 2 1 1"},
		{"order 0 1 0 1", "copy 0", 399, "shops 2 1 1\norder 0 1 0 1"},
	} {
		m := maker.New()
		do(t, m, c.before)
		for range 2 {
			fill(t, m, c.line, c.most)
			if c.empty == "" {
				break
			}
			do(t, m, c.empty)
		}
	}
}

// do does lines that are not refused.
func do(t *testing.T, m *maker.Maker, lines string) {
	t.Helper()
	for _, line := range strings.Split(lines, "\n") {
		if found := m.Line(line); strings.HasPrefix(found, "!") {
			t.Errorf("%q: %q", line, found)
		}
	}
}

// fill does a line as often as it can be done.
func fill(t *testing.T, m *maker.Maker, line string, most int) {
	t.Helper()
	for n := range most {
		if found := m.Line(line); strings.HasPrefix(found, "!") {
			t.Errorf("%q, number %d: %q", line, n, found)
		}
	}
	for range 2 {
		if found := m.Line(line); found != "! 7\n" {
			t.Errorf("%q, one too many: %q", line, found)
		}
		if found := m.Clone().Line(line); found != "! 7\n" {
			t.Errorf("%q, one too many for a clone: %q", line, found)
		}
	}
}

// There are 20 names of braids, and 20 of rules; one that is there already can have another meaning.
func TestNames(t *testing.T) {
	m := maker.New()
	for i := range 20 {
		do(t, m, fmt.Sprintf("braid n%d 1\nrule n%d a", i, i))
	}
	dialogue(`
> braid n20 1
! 7
> rule n20 a
! 7
> braid n20 3
! 2
> rule n20 x
! 2
> normal n20
! 9
> matches n20
! 9
> braid n19 1 1
> rule n0 b
> normal n19
power 0
factor 1 0 2
factor 1 0 2
> matches n0 b
yes
> normal n0
power 0
factor 1 0 2
> strands 4
> normal n19
! 9
> braid n20 3
> normal n20
power 0
factor 0 1 3 2
> rule n20 a
! 7
> matches n19 a
yes
`).on(t, m)
}

// What makes a part empty leaves the others as they are.
func TestParts(t *testing.T) {
	m := maker.New()
	begin := "strip 1 1\nvertex 1 1\nspring 0 1 3\ncube 0 0 0\nribs 2\nmeet 0 1\nbraid a 1\nnode most 1\nmove 0 0\ndiscount 2/3\nperson 1\nperson 0\nrule a a\norder 0 0 0 1"
	do(t, m, begin)
	all := shown(m.Line)
	for _, c := range []struct{ line, again string }{
		{"knots 2", "spring 0 1 3"},
		{"clear solid", "cube 0 0 0"},
		{"ribs 2", "meet 0 1"},
		{"strands 3", "braid a 1"},
		{"clear game", "node most 1\nmove 0 0\ndiscount 2/3"},
		{"clear people", "person 1\nperson 0"},
		{"shops 2 10 10", "order 0 0 0 1"},
		{"strip", "strip 1 1"},
		{"vertex", "vertex 1 1"},
	} {
		do(t, m, c.line)
		if shown(m.Line) == all {
			t.Errorf("%s changes nothing", c.line)
		}
		do(t, m, c.again)
		if found := shown(m.Line); found != all {
			t.Errorf("after %s: %s\nnot\n%s", c.line, found, all)
		}
	}
	dialogue("> value\nvalue 3\nbest 0\n> clear game\n> node most 1\n> move 0 0\n> value\nvalue 2\nbest 0\n").on(t, m)
}
