package strap_test

import (
	"math/big"
	"math/rand"
	"slices"
	"testing"

	"gamp/api"
	"gamp/strap"
)

// sameNormal fails unless words have the same normal form and are equal.
func sameNormal(t *testing.T, n int, a, b []int) {
	t.Helper()
	if x, y := normal(t, n, a), normal(t, n, b); !sameBraid(x, y) {
		t.Errorf("n %d, %v and %v: %v and %v", n, a, b, x, y)
	}
	for _, words := range [][2][]int{{a, b}, {b, a}} {
		if equal, e := strap.Equal(n, words[0], words[1]); e != api.OK || !equal {
			t.Errorf("Equal(%d, %v, %v) = %t, %d", n, words[0], words[1], equal, e)
		}
	}
}

// step takes one of the chapter's steps at a place of a word, if one is possible there, or puts in a letter and its inverse.
func step(random *rand.Rand, n int, word []int, longest int) []int {
	i := random.Intn(len(word) + 1)
	result := slices.Clone(word)
	if i+1 < len(word) && word[i] == -word[i+1] && random.Intn(2) == 0 {
		return slices.Delete(result, i, i+2)
	}
	if i+1 < len(word) {
		if size := max(word[i], -word[i]) - max(word[i+1], -word[i+1]); size >= 2 || size <= -2 {
			result[i], result[i+1] = result[i+1], result[i]
			return result
		}
	}
	if i+2 < len(word) && word[i] == word[i+2] && (word[i+1] == word[i]+1 || word[i+1] == word[i]-1) && word[i]*word[i+1] > 0 {
		result[i], result[i+1], result[i+2] = word[i+1], word[i], word[i+1]
		return result
	}
	if len(word)+2 <= longest {
		k := randomWord(random, n, 1)[0]
		return slices.Insert(result, i, k, -k)
	}
	return result
}

// B1 and B2: equal words, which many steps have turned into each other.
func TestSteps(t *testing.T) {
	random := rand.New(rand.NewSource(3))
	for range 400 {
		n := 2 + random.Intn(7)
		word := randomWord(random, n, random.Intn(40))
		turned := word
		for range 300 {
			turned = step(random, n, turned, api.MaxWord)
		}
		sameNormal(t, n, word, turned)
	}
}

// B2: each kind of step, between other words.
func TestEachStep(t *testing.T) {
	random := rand.New(rand.NewSource(4))
	for n := 2; n <= api.MaxStrands; n++ {
		for range 5 {
			before, behind := randomWord(random, n, random.Intn(29)), randomWord(random, n, random.Intn(29))
			with := func(middle ...int) []int { return slices.Concat(before, middle, behind) }
			for _, k := range letters(n) {
				sameNormal(t, n, with(), with(k, -k))
				for _, j := range letters(n) {
					if size := max(j, -j) - max(k, -k); size >= 2 {
						sameNormal(t, n, with(j, k), with(k, j))
					}
				}
				if k+1 < n && k > 0 {
					sameNormal(t, n, with(k, k+1, k), with(k+1, k, k+1))
				}
			}
		}
	}
}

// normalAgain fails unless the normal form of its own word is a braid.
func normalAgain(t *testing.T, n int, b api.Braid) {
	t.Helper()
	word, e := strap.Word(n, b)
	if e != api.OK {
		t.Errorf("Word(%d, %v): %d", n, b, e)
	} else if len(word) <= api.MaxWord {
		if again := normal(t, n, word); !sameBraid(again, b) {
			t.Errorf("n %d: %v became %v", n, b, again)
		}
	}
}

// B1: all normal forms of up to two factors on few strands, and others.
func TestNormalOfWord(t *testing.T) {
	for n := 2; n <= 4; n++ {
		for power := -2; power <= 2; power++ {
			for _, s := range allPermutations(n) {
				if b := (api.Braid{Power: power, Factors: [][]int{s}}); isNormal(n, b) {
					normalAgain(t, n, b)
				}
				for _, r := range allPermutations(n) {
					if b := (api.Braid{Power: power, Factors: [][]int{r, s}}); isNormal(n, b) {
						normalAgain(t, n, b)
					}
				}
			}
		}
	}
	for n, word := range someWords(api.MaxWord) {
		normalAgain(t, n, normal(t, n, word))
	}
	for power := -60; power <= 60; power++ {
		normalAgain(t, 2, api.Braid{Power: power})
		normalAgain(t, 4, api.Braid{Power: power / 10, Factors: slices.Repeat([][]int{{0, 2, 1, 3}}, 60-max(power, -power))})
	}
}

// B3.
func TestCentre(t *testing.T) {
	for n := 2; n <= api.MaxStrands; n++ {
		twist := simpleWord(twistOf(n))
		for _, letter := range letters(n) {
			turned := n - letter
			if letter < 0 {
				turned = -n - letter
			}
			sameNormal(t, n, append([]int{letter}, twist...), append(slices.Clone(twist), turned))
		}
		twice := slices.Concat(twist, twist)
		random := rand.New(rand.NewSource(5))
		for range 10 {
			if len(twice) < api.MaxWord {
				word := randomWord(random, n, api.MaxWord-len(twice))
				sameNormal(t, n, slices.Concat(twice, word), slices.Concat(word, twice))
			}
		}
	}
}

// B4.
func TestLength(t *testing.T) {
	for n, word := range someWords(api.MaxWord) {
		b := normal(t, n, word)
		length := b.Power * n * (n - 1) / 2
		for _, s := range b.Factors {
			length += crossings(s)
		}
		if length != signs(word) {
			t.Errorf("Normal(%d, %v) = %v: length %d, not %d", n, word, b, length, signs(word))
		}
	}
}

// B5.
func TestMatrixOfProduct(t *testing.T) {
	random := rand.New(rand.NewSource(6))
	for range 150 {
		n := 2 + random.Intn(7)
		a, b := randomWord(random, n, random.Intn(13)), randomWord(random, n, random.Intn(13))
		whole := valuesOf(burau(t, n, slices.Concat(a, b)))
		if !same(whole, times(valuesOf(burau(t, n, a)), valuesOf(burau(t, n, b)))) {
			t.Errorf("n %d, %v and %v: the matrix of the product is another one", n, a, b)
		}
		for _, row := range whole {
			sum := new(big.Rat)
			for _, value := range row {
				sum.Add(sum, value)
			}
			if sum.Cmp(number(1)) != 0 {
				t.Errorf("n %d, %v, %v: a row has another sum than 1", n, a, b)
			}
		}
		turned := a
		for range 100 {
			turned = step(random, n, turned, api.MaxBurau)
		}
		if !same(valuesOf(burau(t, n, a)), valuesOf(burau(t, n, turned))) {
			t.Errorf("n %d, %v and %v: equal, with other matrices", n, a, turned)
		}
		if p, q := alexander(t, n, a), alexander(t, n, turned); !samePolynomial(p, q) {
			t.Errorf("n %d, %v and %v: equal, with %v and %v", n, a, turned, p, q)
		}
	}
}

// B6.
func TestMarkov(t *testing.T) {
	for n, word := range someWords(api.MaxBurau - 2) {
		p := alexander(t, n, word)
		for _, k := range letters(n) {
			if q := alexander(t, n, slices.Concat([]int{k}, word, []int{-k})); !samePolynomial(p, q) {
				t.Errorf("Alexander(%d, %v) = %v, but %v between %d and its inverse", n, word, p, q, k)
			}
		}
		for _, k := range []int{n, -n} {
			if n == api.MaxStrands {
				continue
			}
			if q := alexander(t, n+1, append(slices.Clone(word), k)); !samePolynomial(p, q) {
				t.Errorf("Alexander(%d, %v) = %v, but %v with %d", n, word, p, q, k)
			}
		}
	}
}

// B7.
func TestSymmetry(t *testing.T) {
	for n, word := range someWords(api.MaxBurau) {
		p := alexander(t, n, word)
		loops, _ := strap.Loops(n, word)
		sum := 0
		for _, c := range p.Coef {
			sum += c
		}
		if loops == 1 && sum != 1 && sum != -1 || loops > 1 && sum != 0 {
			t.Errorf("Alexander(%d, %v) = %v: %d at 1 with %d loops", n, word, p, sum, loops)
		}
		backwards := slices.Clone(p.Coef)
		slices.Reverse(backwards)
		if !slices.Equal(p.Coef, backwards) && !slices.Equal(p.Coef, inverse(p.Coef)) {
			t.Errorf("Alexander(%d, %v) = %v is not symmetric", n, word, p)
		}
		if !isTrimmed(p) || p.Low != 0 || len(p.Coef) > 0 && p.Coef[0] < 0 {
			t.Errorf("Alexander(%d, %v) = %v", n, word, p)
		}
	}
}
