package pair_test

import (
	"math/rand"
	"slices"
	"testing"

	"gamp/api"
	"gamp/pair"
)

// partition returns a stable partition, and fails if it is not one.
func (p people) partition(t *testing.T) []int {
	t.Helper()
	next, e := pair.Partition(p)
	if e != api.OK || !p.isStablePartition(next) {
		t.Fatalf("Partition(%v) = %v, %d", p, next, e)
	}
	return next
}

// odd returns the odd parties, and fails if there is an error.
func (p people) odd(t *testing.T) [][]int {
	t.Helper()
	odd, e := pair.Odd(p)
	if e != api.OK {
		t.Fatalf("Odd(%v) = %v, %d", p, odd, e)
	}
	return odd
}

func (p people) checkOdd(t *testing.T, want [][]int) {
	t.Helper()
	if odd := p.odd(t); !equalParties(odd, want) {
		t.Errorf("Odd(%v) = %v, not %v", p, odd, want)
	}
}

// checkMatch fails unless Match returns a stable matching, or says that there is none.
func (p people) checkMatch(t *testing.T, exists bool) {
	t.Helper()
	match, e := pair.Match(p)
	switch {
	case exists && (e != api.OK || !p.isStableMatching(match)):
		t.Errorf("Match(%v) = %v, %d", p, match, e)
	case !exists && (e != api.ErrNone || len(match) != 0):
		t.Errorf("Match(%v) = %v, %d, but there is none", p, match, e)
	}
}

func (p people) checkHolds(t *testing.T, next []int, want bool) {
	t.Helper()
	if ok, e := pair.Holds(p, next); e != api.OK || ok != want {
		t.Errorf("Holds(%v, %v) = %t, %d, not %t", p, next, ok, e, want)
	}
}

func (p people) checkBlocks(t *testing.T, match []int) {
	t.Helper()
	want := api.ErrNone
	a, b, found := p.blocking(match)
	if found {
		want = api.OK
	}
	if i, j, e := pair.Blocks(p, match); e != want || i != a || j != b {
		t.Errorf("Blocks(%v, %v) = %d, %d, %d, not %d, %d, %d", p, match, i, j, e, a, b, want)
	}
}

func TestExamples(t *testing.T) {
	for _, c := range []struct {
		p     people
		match []int
		odd   [][]int
	}{
		{people{{1}, {0}}, []int{1, 0}, nil},
		{people{{1, 2, 3}, {2, 0, 3}, {0, 1, 3}, {0, 1, 2}}, nil, [][]int{{0, 1, 2}, {3}}},
		{people{{1, 2, 3}, {0, 2, 3}, {3, 0, 1}, {2, 0, 1}}, []int{1, 0, 3, 2}, nil},
		{people{{}}, []int{-1}, [][]int{{0}}},
		{people{{1, 2}, {0, 2}, {0, 1}}, []int{1, 0, -1}, [][]int{{2}}},
		{people{{1, 2}, {2, 0}, {0, 1}}, nil, [][]int{{0, 1, 2}}},
		{people{{2, 1}, {0, 2}, {1, 0}}, nil, [][]int{{0, 2, 1}}},
	} {
		want := api.OK
		if c.match == nil {
			want = api.ErrNone
		}
		if match, e := pair.Match(c.p); e != want || !slices.Equal(match, c.match) {
			t.Errorf("Match(%v) = %v, %d, not %v", c.p, match, e, c.match)
		}
		c.p.checkOdd(t, c.odd)
		c.p.partition(t)
	}
	p := people{{1, 2, 3}, {0, 2, 3}, {3, 0, 1}, {2, 0, 1}}
	for _, c := range []struct {
		match []int
		i, j  int
		e     api.Errno
	}{
		{[]int{2, 3, 0, 1}, 0, 1, api.OK},
		{[]int{1, 0, -1, -1}, 2, 3, api.OK},
		{[]int{-1, -1, 3, 2}, 0, 1, api.OK},
		{[]int{-1, 2, 1, -1}, 0, 1, api.OK},
		{[]int{-1, -1, -1, -1}, 0, 1, api.OK},
		{[]int{1, 0, 3, 2}, 0, 0, api.ErrNone},
	} {
		if i, j, e := pair.Blocks(p, c.match); i != c.i || j != c.j || e != c.e {
			t.Errorf("Blocks(%v) = %d, %d, %d", c.match, i, j, e)
		}
	}
}

func TestAllMatchings(t *testing.T) {
	for _, p := range somePeople(8, 15) {
		for match := range matchings(len(p)) {
			p.checkBlocks(t, match)
		}
		p.checkMatch(t, len(p.stableMatchings()) > 0)
	}
}

func TestAllPartitions(t *testing.T) {
	for _, p := range somePeople(6, 20) {
		for next := range permutations(len(p)) {
			p.checkHolds(t, next, p.isStablePartition(next))
		}
		p.checkOdd(t, oddOnes(parties(p.partition(t))))
	}
}

// Match against all matchings of more people.
func TestMatch(t *testing.T) {
	random := rand.New(rand.NewSource(2))
	for n := 9; n <= 11; n++ {
		for range 8 {
			p := randomPeople(random, n)
			p.checkMatch(t, len(p.stableMatchings()) > 0)
		}
	}
}

// manyPeople returns people of all sizes.
func manyPeople(each int) []people {
	random := rand.New(rand.NewSource(3))
	var all []people
	for n := 1; n <= api.MaxPeople; n++ {
		for range each {
			all = append(all, randomPeople(random, n))
		}
	}
	return all
}

// checkAll holds all functions against the definitions, as far as a stable partition tells.
func (p people) checkAll(t *testing.T) {
	t.Helper()
	next := p.partition(t)
	p.checkHolds(t, next, true)
	odd := oddOnes(parties(next))
	p.checkOdd(t, odd)
	p.checkMatch(t, !hasLongOdd(odd))
	if match, e := pair.Match(p); e == api.OK {
		p.checkBlocks(t, match)
	}
}

func TestManyPeople(t *testing.T) {
	for _, p := range manyPeople(150) {
		p.checkAll(t)
	}
}

// All ranks of five people, up to their numbers.
func TestFivePeople(t *testing.T) {
	ranked(people{{1, 2, 3, 4}}, 5, func(p people) bool {
		p.checkAll(t)
		return !t.Failed()
	})
}

// Blocks and Holds of what is nearly stable, or not at all.
func TestNearlyStable(t *testing.T) {
	random := rand.New(rand.NewSource(4))
	wrong := 0
	for _, p := range manyPeople(10) {
		next := p.partition(t)
		match := make([]int, len(p))
		for i, j := range next {
			match[i] = -1
			if i != j && next[j] == i {
				match[i] = j
			}
		}
		p.checkBlocks(t, match)
		shuffled := random.Perm(len(p))
		p.checkHolds(t, shuffled, p.isStablePartition(shuffled))
		for i := range p {
			j := random.Intn(len(p))
			other := slices.Clone(next)
			other[i], other[j] = other[j], other[i]
			p.checkHolds(t, other, p.isStablePartition(other))
			p.checkBlocks(t, exchanged(match, i, j))
			if !p.isStablePartition(other) {
				wrong++
			}
		}
	}
	if wrong < 1000 {
		t.Errorf("only %d unstable partitions", wrong)
	}
}

// exchanged returns a matching in which two people have exchanged their partners.
func exchanged(match []int, i, j int) []int {
	names := upTo(len(match))
	names[i], names[j] = j, i
	other := make([]int, len(match))
	for a, b := range match {
		other[names[a]] = -1
		if b != -1 {
			other[names[a]] = names[b]
		}
	}
	return other
}

// ringParties returns the odd parties of people in rings.
func ringParties(sizes []int) [][]int {
	var odd [][]int
	n := 0
	for _, size := range sizes {
		if size%2 == 1 {
			var party []int
			for i := range size {
				party = append(party, n+i)
			}
			odd = append(odd, party)
		}
		n += size
	}
	return odd
}

// Rings of all sizes, and many of them; at most one person can be alone.
func TestRings(t *testing.T) {
	random := rand.New(rand.NewSource(5))
	rings := [][]int{{3, 3}, {3, 3, 3}, {3, 3, 3, 3, 3, 3, 3, 3}, {5, 3, 7, 9}, {4, 3, 5, 6, 1}, {4, 4, 4, 4, 4, 4}, {2, 3, 2, 3, 2}, {21, 3}, {20, 3, 1}, {11, 13}, {8, 16}, {9, 7, 5, 2, 1}}
	for size := 1; size <= api.MaxPeople; size++ {
		rings = append(rings, []int{size})
		if size > 1 && size < api.MaxPeople {
			rings = append(rings, []int{size, 1}, []int{1, size})
		}
	}
	for _, sizes := range rings {
		for range 5 {
			p := inRings(random, sizes...)
			p.checkAll(t)
			want := ringParties(sizes)
			p.checkOdd(t, want)
			names := random.Perm(len(p))
			p.renamed(names).checkOdd(t, renamedParties(want, names))
		}
	}
}

// men returns people of two kinds, of whom each one prefers the other kind, in the orders of two Latin squares: all stable matchings are between the kinds, and there are many of them.
func men(random *rand.Rand, half int) people {
	p := make(people, 2*half)
	for i := range half {
		for k := range half {
			p[i] = append(p[i], half+(i+k)%half)
			p[half+i] = append(p[half+i], (i+1+k)%half)
		}
		for k := 1; k < half; k++ {
			p[i] = append(p[i], (i+k)%half)
			p[half+i] = append(p[half+i], half+(i+k)%half)
		}
	}
	return p.renamed(random.Perm(2 * half))
}

func TestMen(t *testing.T) {
	random := rand.New(rand.NewSource(6))
	for half := 1; half <= api.MaxPeople/2; half++ {
		p := men(random, half)
		p.checkAll(t)
		p.checkMatch(t, true)
		p.checkOdd(t, nil)
	}
}

// A circle in which everybody prefers those who come next.
func TestCircles(t *testing.T) {
	for n := 1; n <= api.MaxPeople; n++ {
		p := make(people, n)
		backward := make(people, n)
		for i := range n {
			for k := 1; k < n; k++ {
				p[i] = append(p[i], (i+k)%n)
				backward[i] = append(backward[i], (i+n-k)%n)
			}
		}
		p.checkAll(t)
		backward.checkAll(t)
		inOrder := make(people, n)
		for i := range n {
			inOrder[i] = without(n, i)
		}
		inOrder.checkAll(t)
		inOrder.checkMatch(t, true)
	}
}
