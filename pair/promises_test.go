package pair_test

import (
	"math/rand"
	"slices"
	"testing"

	"gamp/api"
	"gamp/pair"
)

// P1 (Tan): there is a stable partition, and all of them have the odd parties that Odd returns.
func TestTan(t *testing.T) {
	for _, p := range somePeople(7, 25) {
		all := p.stablePartitions()
		if next := p.partition(t); !slices.ContainsFunc(all, func(other []int) bool { return slices.Equal(next, other) }) {
			t.Errorf("Partition(%v) = %v", p, next)
		}
		for _, next := range all {
			p.checkHolds(t, next, true)
			p.checkOdd(t, oddOnes(parties(next)))
		}
	}
}

// P1 again, for all ranks of five people, up to their numbers.
func TestTanOfFive(t *testing.T) {
	all := slices.Collect(permutations(5))
	ranked(people{{1, 2, 3, 4}}, 5, func(p people) bool {
		odd := p.odd(t)
		for _, next := range all {
			if p.isStablePartition(next) && !equalParties(odd, oddOnes(parties(next))) {
				t.Errorf("Odd(%v) = %v, but %v is stable", p, odd, next)
			}
		}
		return !t.Failed()
	})
}

// P2 (matching): there is a stable matching exactly if no odd party has three members or more.
func TestMatching(t *testing.T) {
	none := 0
	for _, p := range somePeople(9, 25) {
		exists := len(p.stableMatchings()) > 0
		p.checkMatch(t, exists)
		if odd := p.odd(t); exists == hasLongOdd(odd) {
			t.Errorf("Odd(%v) = %v, stable matching: %t", p, odd, exists)
		}
		if !exists {
			none++
		}
	}
	if none < 50 {
		t.Errorf("only %d people without a stable matching", none)
	}
}

// aloneIn returns those without a partner.
func aloneIn(match []int) []int {
	return slices.DeleteFunc(upTo(len(match)), func(i int) bool { return match[i] != -1 })
}

// P3 (alone): all stable matchings leave the same people alone, at most one.
func TestAlone(t *testing.T) {
	for _, p := range somePeople(9, 25) {
		var alone []int
		for _, party := range p.odd(t) {
			if len(party) == 1 {
				alone = append(alone, party[0])
			}
		}
		if len(alone) > 1 {
			t.Errorf("Odd(%v): %v are alone", p, alone)
		}
		all := p.stableMatchings()
		if match, e := pair.Match(p); e == api.OK {
			all = append(all, match)
		}
		for _, match := range all {
			if !slices.Equal(aloneIn(match), alone) {
				t.Errorf("%v: %v leaves others alone than %v", p, match, alone)
			}
		}
	}
}

// eachPairing pairs the members of the parties from the k-th one on, from either of the first two members on, in all ways.
func eachPairing(all [][]int, match []int, check func([]int)) {
	if len(all) == 0 {
		check(match)
		return
	}
	party := all[0]
	if len(party) == 1 {
		match[party[0]] = -1
		eachPairing(all[1:], match, check)
		return
	}
	for from := range 2 {
		for k := from; k < from+len(party); k += 2 {
			a, b := party[k%len(party)], party[(k+1)%len(party)]
			match[a], match[b] = b, a
		}
		eachPairing(all[1:], match, check)
	}
}

// P4 (even): every second member of even parties and the next one make a stable matching.
func TestEven(t *testing.T) {
	random := rand.New(rand.NewSource(7))
	some := somePeople(6, 30)
	for _, sizes := range [][]int{{4}, {6}, {4, 1}, {6, 1}, {1, 6}, {4, 2, 1}} {
		some = append(some, inRings(random, sizes...))
	}
	long := 0
	for _, p := range some {
		for _, next := range p.stablePartitions() {
			all := parties(next)
			if hasLongOdd(all) {
				continue
			}
			if slices.ContainsFunc(all, func(party []int) bool { return len(party) > 2 }) {
				long++
			}
			eachPairing(all, make([]int, len(p)), func(match []int) {
				if i, j, e := pair.Blocks(p, match); e != api.ErrNone {
					t.Errorf("Blocks(%v, %v) = %d, %d, %d", p, match, i, j, e)
				}
			})
		}
	}
	if long < 10 {
		t.Errorf("only %d partitions with an even party of four members or more", long)
	}
}

// P5 (names): the odd parties are renumbered with the people.
func TestNames(t *testing.T) {
	random := rand.New(rand.NewSource(8))
	for _, p := range append(manyPeople(20), somePeople(6, 20)...) {
		odd := p.odd(t)
		for range 5 {
			names := random.Perm(len(p))
			p.renamed(names).checkOdd(t, renamedParties(odd, names))
		}
	}
}
