package strap_test

import (
	"fmt"
	"math/rand"
	"slices"
	"testing"

	"gamp/api"
	"gamp/strap"
)

func normal(t *testing.T, n int, word []int) api.Braid {
	t.Helper()
	b, e := strap.Normal(n, word)
	if e != api.OK {
		t.Fatalf("Normal(%d, %v): %d", n, word, e)
	}
	return b
}

func alexander(t *testing.T, n int, word []int) api.Laurent {
	t.Helper()
	p, e := strap.Alexander(n, word)
	if e != api.OK {
		t.Fatalf("Alexander(%d, %v): %d", n, word, e)
	}
	return p
}

func burau(t *testing.T, n int, word []int) [][]api.Laurent {
	t.Helper()
	m, e := strap.Burau(n, word)
	if e != api.OK || len(m) != n {
		t.Fatalf("Burau(%d, %v) = %v, %d", n, word, m, e)
	}
	for _, row := range m {
		if len(row) != n {
			t.Fatalf("Burau(%d, %v) = %v", n, word, m)
		}
	}
	return m
}

func sameBraid(a, b api.Braid) bool {
	return a.Power == b.Power && slices.EqualFunc(a.Factors, b.Factors, slices.Equal[[]int])
}

func samePolynomial(p, q api.Laurent) bool {
	return p.Low == q.Low && slices.Equal(p.Coef, q.Coef)
}

// isTrimmed reports whether a polynomial is written as the chapter says.
func isTrimmed(p api.Laurent) bool {
	if len(p.Coef) == 0 {
		return p.Low == 0
	}
	return p.Coef[0] != 0 && p.Coef[len(p.Coef)-1] != 0
}

func valuesOf(m [][]api.Laurent) values {
	result := make(values, len(m))
	for i, row := range m {
		for _, p := range row {
			result[i] = append(result[i], valueOf(p))
		}
	}
	return result
}

// someWords yields numbers of strands and words: all short ones, and some long ones.
func someWords(most int) func(func(int, []int) bool) {
	return func(yield func(int, []int) bool) {
		for i, length := range []int{6, 4, 3, 2, 2, 2, 2} {
			for word := range allWords(i+2, length) {
				if !yield(i+2, word) {
					return
				}
			}
		}
		random := rand.New(rand.NewSource(1))
		for range 300 {
			n := 2 + random.Intn(7)
			if !yield(n, randomWord(random, n, random.Intn(most+1))) {
				return
			}
		}
		for n := 2; n <= api.MaxStrands; n++ {
			if !yield(n, randomWord(random, n, most)) {
				return
			}
		}
	}
}

func TestPerm(t *testing.T) {
	for _, c := range []struct {
		n          int
		word, perm []int
	}{
		{2, nil, []int{0, 1}},
		{2, []int{1}, []int{1, 0}},
		{2, []int{-1}, []int{1, 0}},
		{2, []int{1, 1}, []int{0, 1}},
		{3, []int{1, 2}, []int{2, 0, 1}},
		{3, []int{2, 1}, []int{1, 2, 0}},
		{3, []int{-1, 2}, []int{2, 0, 1}},
		{8, []int{1, 2, 3, 4, 5, 6, 7}, []int{7, 0, 1, 2, 3, 4, 5, 6}},
	} {
		if p, e := strap.Perm(c.n, c.word); e != api.OK || !slices.Equal(p, c.perm) {
			t.Errorf("Perm(%d, %v) = %v, %d", c.n, c.word, p, e)
		}
	}
	for n, word := range someWords(api.MaxWord) {
		if p, e := strap.Perm(n, word); e != api.OK || !slices.Equal(p, permOf(n, word)) {
			t.Errorf("Perm(%d, %v) = %v, %d, not %v", n, word, p, e, permOf(n, word))
		}
	}
}

func TestLoops(t *testing.T) {
	for _, c := range []struct {
		n, loops int
		word     []int
	}{
		{2, 2, nil}, {8, 8, nil}, {2, 1, []int{1}}, {2, 2, []int{1, 1}}, {3, 1, []int{1, -2, 1, -2}}, {3, 3, []int{1, -2, 1, -2, 1, -2}},
		{8, 1, []int{1, 2, 3, 4, 5, 6, 7}}, {8, 4, []int{1, 3, 5, 7}}, {8, 6, []int{2, 5}}, {3, 2, []int{1, 2, 1}},
	} {
		if loops, e := strap.Loops(c.n, c.word); e != api.OK || loops != c.loops {
			t.Errorf("Loops(%d, %v) = %d, %d, not %d", c.n, c.word, loops, e, c.loops)
		}
	}
	for n, word := range someWords(api.MaxWord) {
		if loops, e := strap.Loops(n, word); e != api.OK || loops != loopsOf(permOf(n, word)) {
			t.Errorf("Loops(%d, %v) = %d, %d", n, word, loops, e)
		}
	}
}

func TestNormal(t *testing.T) {
	for _, c := range []struct {
		n    int
		word []int
		want api.Braid
	}{
		{2, nil, api.Braid{}},
		{8, nil, api.Braid{}},
		{3, []int{1, 2, 1}, api.Braid{Power: 1}},
		{3, []int{2, 1, 2}, api.Braid{Power: 1}},
		{3, []int{-1, -2, -1}, api.Braid{Power: -1}},
		{2, []int{1, 1, 1}, api.Braid{Power: 3}},
		{2, []int{-1}, api.Braid{Power: -1}},
		{2, []int{-1, 1}, api.Braid{}},
		{3, []int{1, 1, 2}, api.Braid{Factors: [][]int{{1, 0, 2}, {2, 0, 1}}}},
		{3, []int{2, 1, 1}, api.Braid{Factors: [][]int{{1, 2, 0}, {1, 0, 2}}}},
		{3, []int{-1}, api.Braid{Power: -1, Factors: [][]int{{2, 0, 1}}}},
		{3, []int{-2}, api.Braid{Power: -1, Factors: [][]int{{1, 2, 0}}}},
		{3, []int{2, -1}, api.Braid{Power: -1, Factors: [][]int{{1, 0, 2}, {2, 0, 1}}}},
		{4, []int{1, 3}, api.Braid{Factors: [][]int{{1, 0, 3, 2}}}},
		{4, []int{1, 1, 3}, api.Braid{Factors: [][]int{{1, 0, 3, 2}, {1, 0, 2, 3}}}},
		{4, []int{1, 2, 3, 1, 2, 1, 3}, api.Braid{Power: 1, Factors: [][]int{{0, 1, 3, 2}}}},
		{4, []int{3, 1, 2, 3, 1, 2, 1}, api.Braid{Power: 1, Factors: [][]int{{1, 0, 2, 3}}}},
	} {
		if b := normal(t, c.n, c.word); !sameBraid(b, c.want) {
			t.Errorf("Normal(%d, %v) = %v, not %v", c.n, c.word, b, c.want)
		}
	}
}

// The normal form is one by the literal reading, and denotes the braid of the word.
func TestNormalDenotes(t *testing.T) {
	for n, word := range someWords(api.MaxWord) {
		b := normal(t, n, word)
		if !isNormal(n, b) {
			t.Errorf("Normal(%d, %v) = %v", n, word, b)
		}
		if len(word) > 12 {
			continue
		}
		if !slices.EqualFunc(freely(n, word), freely(n, wordOf(n, b)), slices.Equal[[]int]) {
			t.Errorf("Normal(%d, %v) = %v, another braid", n, word, b)
		}
	}
}

func TestIs(t *testing.T) {
	for _, c := range []struct {
		n    int
		b    api.Braid
		want bool
	}{
		{2, api.Braid{}, true},
		{8, api.Braid{Power: 7}, true},
		{2, api.Braid{Power: least}, true},
		{2, api.Braid{Power: most}, true},
		{2, api.Braid{Factors: [][]int{{1, 0}}}, false},
		{2, api.Braid{Factors: [][]int{{0, 1}}}, false},
		{3, api.Braid{Factors: [][]int{{1, 0, 2}}}, true},
		{3, api.Braid{Factors: [][]int{{1, 0, 2}, {1, 0, 2}}}, true},
		{3, api.Braid{Factors: [][]int{{1, 0, 2}, {0, 2, 1}}}, false},
		{3, api.Braid{Factors: [][]int{{1, 0, 2}, {2, 0, 1}}}, true},
		{3, api.Braid{Factors: [][]int{{2, 0, 1}, {1, 0, 2}}}, false},
		{3, api.Braid{Factors: [][]int{{2, 0, 1}, {0, 2, 1}}}, true},
		{3, api.Braid{Factors: [][]int{{2, 1, 0}}}, false},
		{3, api.Braid{Factors: [][]int{{0, 1, 2}}}, false},
		{3, api.Braid{Factors: [][]int{nil}}, false},
		{3, api.Braid{Factors: [][]int{{}}}, false},
		{3, api.Braid{Factors: [][]int{{1, 0}}}, false},
		{3, api.Braid{Factors: [][]int{{1, 0, 2, 3}}}, false},
		{3, api.Braid{Factors: [][]int{{1, 0, 3}}}, false},
		{3, api.Braid{Factors: [][]int{{1, 0, -1}}}, false},
		{3, api.Braid{Factors: [][]int{{1, 0, 0}}}, false},
		{3, api.Braid{Factors: [][]int{{1, 1, 1}}}, false},
		{3, api.Braid{Factors: [][]int{{least, 0, most}}}, false},
		{3, api.Braid{Factors: [][]int{{1, 0, 2}, {1, 0, 64 + 2}}}, false},
		{3, api.Braid{Factors: [][]int{{1, 0, 2}, nil}}, false},
		{3, api.Braid{Factors: [][]int{nil, {1, 0, 2}}}, false},
		{3, api.Braid{Factors: [][]int{make([]int, 100000)}}, false},
		{3, api.Braid{Factors: slices.Repeat([][]int{{1, 0, 2}}, 100000)}, true},
		{3, api.Braid{Factors: append(slices.Repeat([][]int{{1, 0, 2}}, 100000), []int{0, 2, 1})}, false},
	} {
		if ok, e := strap.Is(c.n, c.b); e != api.OK || ok != c.want {
			t.Errorf("Is(%d, %v) = %t, %d", c.n, c.b, ok, e)
		}
	}
}

// All pairs and triples of permutations of three numbers, all pairs of four, all lists of three numbers from -1 to 3, and others.
func TestIsByDefinition(t *testing.T) {
	check := func(n int, factors ...[]int) {
		b := api.Braid{Power: len(factors) - 2, Factors: factors}
		if ok, e := strap.Is(n, b); e != api.OK || ok != isNormal(n, b) {
			t.Errorf("Is(%d, %v) = %t, %d", n, b, ok, e)
		}
	}
	for _, s := range allPermutations(3) {
		for _, r := range allPermutations(3) {
			check(3, r, s)
			for _, q := range allPermutations(3) {
				check(3, q, r, s)
			}
		}
	}
	for _, s := range allPermutations(4) {
		check(4, s)
		check(3, s)
		for _, r := range allPermutations(4) {
			check(4, r, s)
		}
	}
	for code := range 125 {
		check(3, []int{code%5 - 1, code/5%5 - 1, code/25 - 1})
	}
	random := rand.New(rand.NewSource(2))
	for range 2000 {
		n := 5 + random.Intn(4)
		check(n, random.Perm(n), random.Perm(n))
		b := normal(t, n, randomWord(random, n, 20))
		check(n, b.Factors...)
		if len(b.Factors) > 1 {
			i := random.Intn(len(b.Factors) - 1)
			b.Factors[i], b.Factors[i+1] = b.Factors[i+1], b.Factors[i]
			check(n, b.Factors...)
		}
	}
}

func TestWord(t *testing.T) {
	for _, c := range []struct {
		n    int
		b    api.Braid
		word []int
	}{
		{2, api.Braid{}, nil},
		{2, api.Braid{Power: 3}, []int{1, 1, 1}},
		{2, api.Braid{Power: -3}, []int{-1, -1, -1}},
		{3, api.Braid{Power: 1}, []int{1, 2, 1}},
		{3, api.Braid{Power: -1}, []int{-1, -2, -1}},
		{4, api.Braid{Power: 1}, []int{1, 2, 1, 3, 2, 1}},
		{4, api.Braid{Power: -1}, []int{-1, -2, -3, -1, -2, -1}},
		{4, api.Braid{Power: -2}, []int{-1, -2, -3, -1, -2, -1, -1, -2, -3, -1, -2, -1}},
		{3, api.Braid{Power: -1, Factors: [][]int{{2, 0, 1}}}, []int{-1, -2, -1, 1, 2}},
		{3, api.Braid{Factors: [][]int{{1, 0, 2}, {2, 0, 1}}}, []int{1, 1, 2}},
		{3, api.Braid{Factors: [][]int{{1, 2, 0}}}, []int{2, 1}},
		{4, api.Braid{Factors: [][]int{{1, 0, 3, 2}}}, []int{1, 3}},
		{4, api.Braid{Factors: [][]int{{3, 0, 2, 1}}}, []int{1, 2, 3, 2}},
	} {
		if word, e := strap.Word(c.n, c.b); e != api.OK || !slices.Equal(word, c.word) {
			t.Errorf("Word(%d, %v) = %v, %d, not %v", c.n, c.b, word, e, c.word)
		}
	}
	for n := 2; n <= 5; n++ {
		for _, p := range allPermutations(n) {
			b := api.Braid{Factors: [][]int{p}}
			if !isNormal(n, b) {
				continue
			}
			if word, e := strap.Word(n, b); e != api.OK || !slices.Equal(word, simpleWord(p)) {
				t.Errorf("Word(%d, %v) = %v, %d", n, b, word, e)
			}
		}
	}
	for n, word := range someWords(api.MaxWord) {
		b := normal(t, n, word)
		if w, e := strap.Word(n, b); e != api.OK || !slices.Equal(w, wordOf(n, b)) {
			t.Errorf("Word(%d, %v) = %v, %d", n, b, w, e)
		}
	}
}

// Equal and Normal tell braids apart just as the action on the free group does, for all short words.
func TestEqualByAction(t *testing.T) {
	for i, length := range []int{9, 7, 5, 4, 3, 3, 3} {
		n := i + 2
		forms, actions := map[string]string{}, map[string]string{}
		firsts := map[string][]int{}
		var before []int
		for word := range allWords(n, length) {
			form, action := fmt.Sprint(normal(t, n, word)), fmt.Sprint(freely(n, word))
			if forms[action] == "" && actions[form] == "" {
				forms[action], actions[form], firsts[action] = form, action, word
			}
			if forms[action] != form || actions[form] != action {
				t.Fatalf("n %d, %v: normal form %s, action %s", n, word, form, action)
			}
			if equal, e := strap.Equal(n, firsts[action], word); e != api.OK || !equal {
				t.Errorf("Equal(%d, %v, %v) = %t, %d", n, firsts[action], word, equal, e)
			}
			if equal, e := strap.Equal(n, before, word); e != api.OK || equal != (action == fmt.Sprint(freely(n, before))) {
				t.Errorf("Equal(%d, %v, %v) = %t, %d", n, before, word, equal, e)
			}
			before = word
		}
	}
}

func TestBurau(t *testing.T) {
	one, t1, less := api.Laurent{Coef: []int{1}}, api.Laurent{Low: 1, Coef: []int{1}}, api.Laurent{Coef: []int{1, -1}}
	for _, c := range []struct {
		n    int
		word []int
		want [][]api.Laurent
	}{
		{2, nil, [][]api.Laurent{{one, {}}, {{}, one}}},
		{2, []int{1}, [][]api.Laurent{{less, t1}, {one, {}}}},
		{2, []int{-1}, [][]api.Laurent{{{}, one}, {{Low: -1, Coef: []int{1}}, {Low: -1, Coef: []int{-1, 1}}}}},
		{2, []int{1, -1}, [][]api.Laurent{{one, {}}, {{}, one}}},
		{2, []int{1, 1}, [][]api.Laurent{{{Coef: []int{1, -1, 1}}, {Low: 1, Coef: []int{1, -1}}}, {less, t1}}},
		{3, []int{2}, [][]api.Laurent{{one, {}, {}}, {{}, less, t1}, {{}, one, {}}}},
		{3, []int{1, 2}, [][]api.Laurent{{less, {Low: 1, Coef: []int{1, -1}}, {Low: 2, Coef: []int{1}}}, {one, {}, {}}, {{}, one, {}}}},
	} {
		m := burau(t, c.n, c.word)
		if !slices.EqualFunc(m, c.want, func(a, b []api.Laurent) bool { return slices.EqualFunc(a, b, samePolynomial) }) {
			t.Errorf("Burau(%d, %v) = %v, not %v", c.n, c.word, m, c.want)
		}
	}
	for n, word := range someWords(api.MaxBurau) {
		m := burau(t, n, word)
		for _, row := range m {
			if slices.ContainsFunc(row, func(p api.Laurent) bool { return !isTrimmed(p) }) {
				t.Errorf("Burau(%d, %v) has zeroes at an end: %v", n, word, row)
			}
		}
		if !same(valuesOf(m), burauOf(n, word)) {
			t.Errorf("Burau(%d, %v) = %v", n, word, m)
		}
	}
}

// torus returns the word of a torus knot or link: letters 1 to n - 1, so many times.
func torus(n, times int) []int {
	var word []int
	for range times {
		for k := 1; k < n; k++ {
			word = append(word, k)
		}
	}
	return word
}

// alternating returns a word whose letters alternate in their signs as their sizes do.
func alternating(n, length int) []int {
	var word []int
	for i := range length {
		k := i%(n-1) + 1
		if k%2 == 0 {
			k = -k
		}
		word = append(word, k)
	}
	return word
}

func TestAlexander(t *testing.T) {
	for _, c := range []struct {
		n          int
		word, coef []int
	}{
		{2, nil, nil},
		{8, nil, nil},
		{3, []int{1}, nil},
		{3, []int{1, 1}, nil},
		{8, []int{1, 2, 3, 5, 6, 7, 1, -2}, nil},
		{2, []int{1}, []int{1}},
		{2, []int{-1}, []int{1}},
		{8, torus(8, 1), []int{1}},
		{2, []int{1, 1}, []int{1, -1}},
		{2, []int{-1, -1}, []int{1, -1}},
		{2, []int{1, 1, 1}, []int{1, -1, 1}},
		{2, []int{-1, -1, -1}, []int{1, -1, 1}},
		{2, []int{1, 1, 1, 1}, []int{1, -1, 1, -1}},
		{2, []int{1, 1, 1, 1, 1}, []int{1, -1, 1, -1, 1}},
		{3, []int{1, -2, 1, -2}, []int{1, -3, 1}},
		{3, []int{1, 1, 1, 2, -1, 2}, []int{2, -3, 2}},
		{4, []int{1, 1, 2, -1, -3, 2, -3}, []int{2, -5, 2}},
		{3, []int{-1, -1, -1, 2, -1, 2}, []int{1, -3, 3, -3, 1}},
		{3, []int{-1, -1, 2, -1, 2, 2}, []int{1, -3, 5, -3, 1}},
		{3, []int{1, -2, 1, -2, 1, -2}, []int{1, -4, 6, -4, 1}},
		{3, torus(3, 4), []int{1, -1, 0, 1, 0, -1, 1}},
		{4, torus(4, 3), []int{1, -1, 0, 1, 0, -1, 1}},
		{3, torus(3, 5), []int{1, -1, 0, 1, -1, 1, 0, -1, 1}},
		{2, torus(2, 24), slices.Repeat([]int{1, -1}, 12)},
	} {
		if p := alexander(t, c.n, c.word); p.Low != 0 || !slices.Equal(p.Coef, c.coef) {
			t.Errorf("Alexander(%d, %v) = %v, not %v", c.n, c.word, p, c.coef)
		}
	}
	for _, c := range [][2]int{{3, 8}, {4, 7}, {5, 6}, {4, 5}, {3, 7}} {
		p, q := alexander(t, c[0], torus(c[0], c[1])), alexanderOf(c[0], torus(c[0], c[1]))
		if !samePolynomial(p, q) {
			t.Errorf("Alexander of the torus %v = %v, not %v", c, p, q)
		}
		if c[1] <= api.MaxStrands && c[1]*c[0]-c[0] <= api.MaxBurau && c[1]*c[0]-c[1] <= api.MaxBurau {
			if r := alexander(t, c[1], torus(c[1], c[0])); !samePolynomial(p, r) {
				t.Errorf("Alexander of the torus %v and turned round: %v and %v", c, p, r)
			}
		}
	}
}

func TestAlexanderByDefinition(t *testing.T) {
	check := func(n int, word []int) {
		t.Helper()
		if p, q := alexander(t, n, word), alexanderOf(n, word); !samePolynomial(p, q) {
			t.Errorf("Alexander(%d, %v) = %v, not %v", n, word, p, q)
		}
	}
	for n, word := range someWords(api.MaxBurau) {
		check(n, word)
	}
	for n := 2; n <= api.MaxStrands; n++ {
		for length := api.MaxBurau - n; length <= api.MaxBurau; length++ {
			check(n, alternating(n, length))
			check(n, inverse(alternating(n, length)))
		}
	}
}
