package maker_test

import (
	"strings"
	"testing"

	"gamp/api"
	"gamp/maker"
)

// dialogue is lines, each one after a ">", with their replies below them.
type dialogue string

// check does the lines on a new workshop and compares the replies.
func (d dialogue) check(t *testing.T) {
	t.Helper()
	d.on(t, maker.New())
}

// on does the lines on a workshop and compares the replies.
func (d dialogue) on(t *testing.T, m *maker.Maker) {
	t.Helper()
	for _, part := range strings.Split(strings.TrimSpace(string(d)), "> ")[1:] {
		line, want, _ := strings.Cut(part, "\n")
		if want != "" && !strings.HasSuffix(want, "\n") {
			want += "\n"
		}
		if found := m.Line(line); found != want {
			t.Errorf("%s: %q, not %q", line, found, want)
		}
	}
}

func run(t *testing.T, text, want string) {
	t.Helper()
	if found, e := maker.Run(text); found != want || e != api.OK {
		t.Errorf("Run(%q) = %q, %d, not %q", text, found, e, want)
	}
}

// The examples of the chapter.
func TestExamples(t *testing.T) {
	dialogue(`
> strip 3 1 3
> layers VM
layers 0 1 2
> reduce VM
rest 5
pattern -
> spring 0 1 2
> spring 0 1 3
> stiff 0 1
stiff 5
flow 2/5 3/5
> braid a 1 2 1
> braid b 2 1 2
> equal a b
yes
> rule r (ab)*
> matches r abab
yes
> at r 1
text ab
> order 0 0 0 -2 1 0 2
order 0
> settle 10
yes
> stock 0
stock 8
`).check(t)
}

func TestCloth(t *testing.T) {
	dialogue(`
> strip 3 1 3
> layers VV
! 5
> layers MV
layers 2 1 0
> reduce VV
rest 3 1 3
pattern VV
> folds
folds 2
> strip 1 1 1 1
> folds
folds 16
> reduce VVM
rest 1
pattern -
> strip 7
> layers -
layers 0
> reduce -
rest 7
pattern -
> layers V
! 2
> vertex 1 1 1 1
> patterns
pattern MMMV
pattern MMVM
pattern MVMM
pattern MVVV
pattern VMMM
pattern VMVV
pattern VVMV
pattern VVVM
> vertex 1 2 1 2
> patterns
> vertex 1 2 3 2
> patterns
pattern MVMM
pattern MVVV
pattern VMMM
pattern VMVV
> strip
> folds
! 1
> vertex
> patterns
! 1
`).check(t)
}

func TestNetwork(t *testing.T) {
	dialogue(`
> trees
trees 0
> stiff 0 1
! 5
> knots 3
> spring 0 1 1
> spring 1 2 1
> spring 2 0 1
> trees
trees 3
> stiff 0 1
stiff 3/2
flow 2/3 -1/3 -1/3
> stiff 1 0
stiff 3/2
flow -2/3 1/3 1/3
> stiff 1 1
! 1
> knots 3
> trees
trees 0
> spring 0 1 2/3
> trees
trees 0
> knots 2
> spring 0 1 -2/3
> trees
! 1
`).check(t)
}

func TestSolid(t *testing.T) {
	dialogue(`
> peel
! 1
> cube 0 0 0
> peel
joint 0 2
joint 0 3
joint 0 4
joint 0 5
joint 1 2
spots 0 0 2 0 1 0 -1 0 0 1 0 -1
> cube 1 1 0
> peel
! 1
> clear solid
> cube 1 1 1
> peel
joint 0 2
joint 0 3
joint 0 4
joint 0 5
joint 1 2
spots 0 0 2 0 1 0 -1 0 0 1 0 -1
> clear solid
> peel
! 1
`).check(t)
}

// What the document does not fix, elimination orders and intervals, has no place in a reply.
func TestGraph(t *testing.T) {
	dialogue(`
> cliques
clique 0
> chordal
yes
> interval
yes
> ribs 4
> cliques
clique 0
clique 1
clique 2
clique 3
> meet 1 0
> meet 1 2
> meet 3 2
> chordal
yes
> interval
yes
> cliques
clique 0 1
clique 1 2
clique 2 3
> meet 3 0
> chordal
no
> interval
no
> meet 0 3
> chordal
! 1
> interval
! 1
> cliques
! 1
> ribs 7
> meet 0 1
> meet 1 2
> meet 3 0
> meet 4 3
> meet 0 5
> meet 6 5
> chordal
yes
> interval
no
triple 2 4 6
> ribs 6
> meet 0 1
> meet 1 2
> meet 2 3
> meet 3 4
> meet 4 5
> meet 5 0
> chordal
no
> interval
no
> try meet 3 3
> meet 3 3
> cliques
! 1
`).check(t)
}

func TestBraids(t *testing.T) {
	dialogue(`
> braid a 1 2 1
> braid b 2 1 2
> braid c 1 1 2
> braid e
> equal a b
yes
> equal a c
no
> normal a
power 1
> normal c
power 0
factor 1 0 2
factor 2 0 1
> normal e
power 0
> braid a 1 -2 1 -2
> alexander a
loops 1
alexander 1 -3 1
> equal a b
no
> strands 2
> normal a
! 9
> braid a 1 1 1
> normal a
power 3
> alexander a
loops 1
alexander 1 -1 1
> braid a -1
> normal a
power -1
> braid e
> alexander e
loops 2
alexander
`).check(t)
}

func TestGame(t *testing.T) {
	dialogue(`
> value
! 1
> node most 0
> value
! 1
> node least 3
> node chance 0
> move 0 1
> move 0 2
> move 1 1
> move 2 1 1/2
> move 2 2 1/2
> value
value 3 6 2
best 0 0 -1
> discount 0
> value
value 0 3 0
best 0 0 -1
> discount 1
> value
! 1
> clear game
> value
! 1
> node most 1
> move 0 0
> value
value 2
best 0
> discount 9/10
> value
value 10
best 0
> move 0 0 1
> value
! 1
> clear game
> node least -1/2
> move 0 0
> value
value -1
best 0
`).check(t)
}

func TestPeople(t *testing.T) {
	dialogue(`
> match
! 1
> person
> match
match -1
> person 0
> match
! 1
> clear people
> person 1
> person 0
> match
match 1 0
> clear people
> person 1 2 3
> person 2 0 3
> person 0 1 3
> person 0 1 2
> match
odd 0 1 2
odd 3
> clear people
> person 1 2 3
> person 0 2 3
> person 3 0 1
> person 2 0 1
> match
match 1 0 3 2
`).check(t)
}

func TestRules(t *testing.T) {
	dialogue(`
> rule r (ab)*
> rule a a*
> rule b a+
> rule n []
> matches r
yes
> matches b
no
> matches r ab
yes
> matches r aba
no
> matches r x
! 2
> same a b
no
> same b a
no
> same a r
no a
> same a a
yes
> at r 0
text
> at r 2
text abab
> at n 0
! 5
> at r -1
! 1
> at r 1/2
! 1
> rule a !{.*b.*}
> rule b [acd]*
> same a b
yes
> rule a (
! 2
> same a b
yes
`).check(t)
}

func TestTrade(t *testing.T) {
	dialogue(`
> stock 0
stock 10
> stock 1
stock 10
> stock 2
! 1
> flight
> settle 0
yes
> shops 2 5 1 0 2
> stock 0
stock 5 1
> stock 1
stock 0 2
> order 0 0 0 -2 1 0 2
order 0
> flight
message 1 0 0 0
message 1 0 1 0
> state 0 0
state 0
decision 1
> deliver 0
> flight
message 1 0 1 0
message 2 0 0 0
> state 0 0
state 2
decision 1
> copy 1
> drop 1
> flight
message 1 0 1 0
message 2 0 0 0
> crash 1
> deliver 0
> settle 3
no
> restart 1
> tick 1
> settle 3
yes
> state 1 0
state 3
decision 3
> stock 0
stock 3 1
> stock 1
stock 2 2
> order 1 0 1 -2
order 1
> settle 10
yes
> state 0 1
state 4
decision 4
> state 1 1
state 0
decision 4
> shops 1 7
> state 0 0
! 1
> stock 0
stock 7
`).check(t)
}

func TestTry(t *testing.T) {
	dialogue(`
> try cube 0 0 0
> peel
! 1
> try folds
! 1
> try # cube
> try try folds
! 2
> try try
! 2
> try tryfolds
! 2
> try  folds
! 2
> try order 0 1 0 5
order 0
> order 0 1 0 5
order 0
> try order 0 1 0 5
order 1
> try flight
message 1 0 1 0
> try settle 5
yes
> flight
message 1 0 1 0
`).check(t)
}

func TestRun(t *testing.T) {
	run(t, "", "")
	run(t, "\n", "")
	run(t, "\n\n", "")
	run(t, "stock 0", "stock 10\n")
	run(t, "stock 0\n", "stock 10\n")
	run(t, "# stock 0\nstock 0\n\nstock 1\n", "stock 10\nstock 10\n")
	run(t, "stock 0\r\nstock 1", "! 2\nstock 10\n")
	run(t, "shops 1 3\nstock 0\nstock 1\ncrash 0\ncrash 0\nstock 0\n", "stock 3\n! 1\n! 8\nstock 3\n")
	run(t, strings.Repeat("x", 1001)+"\nstock 0", "! 3\nstock 10\n")
}

// Only the part before the first newline is a line.
func TestLineEnds(t *testing.T) {
	m := maker.New()
	for _, c := range [][2]string{
		{"stock 0\n", "stock 10\n"},
		{"stock 0\nfolds", "stock 10\n"},
		{"\nstock 0", ""},
		{"stock 0\n" + strings.Repeat("x", 2000), "stock 10\n"},
		{"# x\nstock 0", ""},
		{"try stock 0\nstock 1", "stock 10\n"},
		{"try \nstock 1", "! 2\n"},
		{"cube 0 0 0\ncube 0 0 1", ""},
		{"peel\n\n", "joint 0 2\njoint 0 3\njoint 0 4\njoint 0 5\njoint 1 2\nspots 0 0 2 0 1 0 -1 0 0 1 0 -1\n"},
	} {
		if found := m.Line(c[0]); found != c[1] {
			t.Errorf("%.30q: %q, not %q", c[0], found, c[1])
		}
	}
}
