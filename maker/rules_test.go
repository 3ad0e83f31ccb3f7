package maker_test

import (
	"fmt"
	"math/rand"
	"slices"
	"strings"
	"sync"
	"testing"
	"unsafe"

	"gamp/maker"
)

// story returns random lines about all.
func story(seed int64) []string {
	r := rand.New(rand.NewSource(seed))
	return pieces(r, subjects()[r.Intn(len(subjects()))], 80)
}

// told returns the replies of a workshop to lines, and to all questions after them.
func told(m *maker.Maker, lines []string) string {
	var all strings.Builder
	for _, line := range lines {
		all.WriteString(m.Line(line))
	}
	return all.String() + shown(m.Line)
}

// R6: the same lines have the same replies, whatever is done with other workshops between or at the same time.
func TestSameAgain(t *testing.T) {
	var group sync.WaitGroup
	for seed := range int64(40) {
		lines := story(seed)
		want := told(maker.New(), lines)
		for range 3 {
			group.Go(func() {
				if found := told(maker.New(), lines); found != want {
					t.Errorf("%q: %s\nand then\n%s", lines, want, found)
				}
			})
		}
	}
	group.Wait()
}

// A clone is in the same state, and independent, also at the same time and from clones of it.
func TestClones(t *testing.T) {
	var group sync.WaitGroup
	for seed := range int64(60) {
		first, second, third := story(seed), story(1000+seed), story(2000+seed)
		if seed < 13 { // the same subject goes on
			r := rand.New(rand.NewSource(seed))
			rows := subjects()[seed]
			first, second, third = pieces(r, rows, 30), pieces(r, rows, 30), pieces(r, rows, 30)
		}
		wantOld, wantNew := told(maker.New(), append(first[:len(first):len(first)], second...)), ""
		m := maker.New()
		told(m, first)
		x := maker.New()
		for _, line := range first {
			x.Line(line)
		}
		old := m.Clone()
		if shown(old.Line) != shown(m.Line) {
			t.Fatalf("after %q: a clone is in another state", first)
		}
		wantNew = told(x, third)
		group.Go(func() {
			if found := told(old, second); !strings.HasSuffix(wantOld, found) {
				t.Errorf("after %q: another end of %q", first, second)
			}
		})
		group.Go(func() {
			if found := told(m, third); found != wantNew {
				t.Errorf("after %q: another end of %q", first, third)
			}
		})
	}
	group.Wait()
}

// What is added to a workshop after it was cloned is not in the clone, and the other way round, however long the lists were.
func TestClonesTakeTheirOwn(t *testing.T) {
	const moves = "move 1 0\nmove 2 0\nmove 3 0\nmove 4 0\nmove 5 0"
	for _, c := range []struct {
		before, more, one, other, question string
	}{
		{"", "spring 0 1 1", "spring 0 1 5", "spring 0 1 7", "trees"},
		{"cube 2 2 0", "cube 2 2 %d", "cube 1 2 0", "cube 2 1 0", "peel"},
		{"ribs 12", "meet 0 %d", "meet 10 11", "meet 9 11", "cliques"},
		{"node most 1\nmove 0 0", "node least %d", "node least 4\n" + moves, "node least 5\n" + moves, "value"},
		{"node most 1\nnode most 5\nnode least 7\nmove 1 1\nmove 2 2", "move 0 0", "move 0 1", "move 0 2", "value"},
		{"person 1 2 3\nperson 2 0 3", "person 0 1 3", "person 0 1 2", "person 0 1", "match"},
		{"strip 1 1", "strip 1 1 1", "strip 2 1 2", "strip 2 1", "folds"},
		{"braid a 1", "braid a 1 2", "braid a 2 1", "braid b 2", "normal a"},
		{"rule a a", "rule b b", "rule b c", "rule a c", "same a b"},
		{"order 0 0 0 1 1 0 1", "deliver 0", "drop 0", "copy 0", "flight"},
	} {
		for size := range 5 {
			first := strings.Split(c.before, "\n")
			for i := range size {
				first = append(first, strings.ReplaceAll(c.more, "%d", fmt.Sprint(i+1)))
			}
			one, other := strings.Split(c.one, "\n"), strings.Split(c.other, "\n")
			m := maker.New()
			told(m, first)
			clone := m.Clone()
			told(m, one)
			told(clone, other)
			check(t, m, slices.Concat(first, one), c.question)
			check(t, clone, slices.Concat(first, other), c.question)
		}
	}
}

// check compares the reply of a workshop to a question with that of a new one that has done some lines.
func check(t *testing.T, m *maker.Maker, lines []string, question string) {
	t.Helper()
	x := maker.New()
	told(x, lines)
	if found, want := m.Line(question)+shown(m.Line), x.Line(question)+shown(x.Line); found != want {
		t.Errorf("after %q: %q\n%s\nnot\n%s", lines, question, found, want)
	}
}

// R5: a workshop keeps no part of a line. (The bytes of a string that is made of a slice can be changed.)
func TestLinesAreNotKept(t *testing.T) {
	for seed := range int64(40) {
		lines := story(seed)
		m, want := maker.New(), maker.New()
		for _, line := range lines {
			bytes := append([]byte(line), 0)
			reply := strings.Clone(m.Line(unsafe.String(&bytes[0], len(line))))
			if string(bytes[:len(line)]) != line {
				t.Fatalf("%q is changed", line)
			}
			for i := range bytes {
				bytes[i] = 'x'
			}
			if expected := want.Line(line); reply != expected {
				t.Fatalf("%q: %q, not %q", line, reply, expected)
			}
		}
		if found, expected := shown(m.Line), shown(want.Line); found != expected {
			t.Fatalf("after %q:\n%s\nnot\n%s", lines, found, expected)
		}
	}
}
