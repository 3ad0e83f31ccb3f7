package strap_test

import (
	"math/big"
	"math/rand"
	"slices"

	"gamp/api"
)

// This file reads the chapter's definitions literally, or decides the same by quite another way.

// freely acts with a word on a free group (Artin): two words are equal as braids exactly if they send all generators to the same elements. An element is a list of numbers, k for the generator k and -k for its inverse.
func freely(n int, word []int) [][]int {
	images := make([][]int, n)
	for i := range images {
		images[i] = []int{i + 1}
	}
	for _, letter := range word {
		k := max(letter, -letter)
		a, b := images[k-1], images[k]
		if letter > 0 {
			images[k-1], images[k] = reduced(a, b, inverse(a)), a
		} else {
			images[k-1], images[k] = b, reduced(inverse(b), a, b)
		}
	}
	return images
}

func reduced(parts ...[]int) []int {
	var result []int
	for _, x := range slices.Concat(parts...) {
		if last := len(result) - 1; last >= 0 && result[last] == -x {
			result = result[:last]
		} else {
			result = append(result, x)
		}
	}
	return result
}

// inverse reverses a word or an element of a free group, and changes all signs.
func inverse(word []int) []int {
	var result []int
	for _, x := range slices.Backward(word) {
		result = append(result, -x)
	}
	return result
}

func permOf(n int, word []int) []int {
	strandAt := upTo(n)
	for _, letter := range word {
		k := max(letter, -letter)
		strandAt[k-1], strandAt[k] = strandAt[k], strandAt[k-1]
	}
	p := make([]int, n)
	for position, strand := range strandAt {
		p[strand] = position
	}
	return p
}

func upTo(n int) []int {
	var list []int
	for i := range n {
		list = append(list, i)
	}
	return list
}

func twistOf(n int) []int {
	p := upTo(n)
	slices.Reverse(p)
	return p
}

// cross reports whether two strands cross in a simple braid.
func cross(p []int, a, b int) bool {
	return p[min(a, b)] > p[max(a, b)]
}

func isNormal(n int, b api.Braid) bool {
	for i, t := range b.Factors {
		sorted := slices.Clone(t)
		slices.Sort(sorted)
		if !slices.Equal(sorted, upTo(n)) || slices.Equal(t, upTo(n)) || slices.Equal(t, twistOf(n)) {
			return false
		}
		if i == 0 {
			continue
		}
		s := b.Factors[i-1]
		for j := range n - 1 {
			if t[j] > t[j+1] && !cross(s, slices.Index(s, j), slices.Index(s, j+1)) {
				return false
			}
		}
	}
	return true
}

func simpleWord(p []int) []int {
	p = slices.Clone(p)
	for i := range len(p) - 1 {
		if p[i] > p[i+1] {
			p[i], p[i+1] = p[i+1], p[i]
			return append([]int{i + 1}, simpleWord(p)...)
		}
	}
	return nil
}

func wordOf(n int, b api.Braid) []int {
	var word []int
	twist := simpleWord(twistOf(n))
	for range b.Power {
		word = append(word, twist...)
	}
	for range -b.Power {
		word = append(word, inverse(twist)...)
	}
	for _, s := range b.Factors {
		word = append(word, simpleWord(s)...)
	}
	return word
}

func crossings(p []int) int {
	return len(simpleWord(p))
}

func signs(word []int) int {
	sum := 0
	for _, letter := range word {
		if letter > 0 {
			sum++
		} else {
			sum--
		}
	}
	return sum
}

func loopsOf(p []int) int {
	least := map[int]bool{}
	for i := range p {
		lowest := i
		for j := p[i]; j != i; j = p[j] {
			lowest = min(lowest, j)
		}
		least[lowest] = true
	}
	return len(least)
}

// Polynomials are held against each other by their values at t = 2^60: all coefficients are below 2^59 here, and so these values tell them.
const bits = 60

func number(n int64) *big.Rat {
	return new(big.Rat).SetInt64(n)
}

// power returns t^n.
func power(n int) *big.Rat {
	t := new(big.Rat).SetInt(new(big.Int).Lsh(big.NewInt(1), uint(bits*max(n, -n))))
	if n < 0 {
		t.Inv(t)
	}
	return t
}

func valueOf(p api.Laurent) *big.Rat {
	sum := new(big.Rat)
	for i, c := range p.Coef {
		term := number(int64(c))
		sum.Add(sum, term.Mul(term, power(p.Low+i)))
	}
	return sum
}

// polynomialOf finds a polynomial with Low 0 and a first coefficient above 0 from its value, up to a power of t and the sign.
func polynomialOf(value *big.Rat) api.Laurent {
	scaled := new(big.Rat).Mul(value, power(300))
	if !scaled.IsInt() {
		panic("no Laurent polynomial")
	}
	rest := new(big.Int).Set(scaled.Num())
	one := new(big.Int).Lsh(big.NewInt(1), bits)
	half := new(big.Int).Lsh(big.NewInt(1), bits-1)
	var coef []int
	for rest.Sign() != 0 {
		digit := new(big.Int)
		rest.DivMod(rest, one, digit)
		if digit.Cmp(half) > 0 {
			digit.Sub(digit, one)
			rest.Add(rest, big.NewInt(1))
		}
		if digit.Sign() != 0 || len(coef) > 0 {
			coef = append(coef, int(digit.Int64()))
		}
	}
	if len(coef) > 0 && coef[0] < 0 {
		for i := range coef {
			coef[i] = -coef[i]
		}
	}
	return api.Laurent{Coef: coef}
}

// values is a matrix of polynomials, as their values.
type values [][]*big.Rat

func unit(n int) values {
	m := make(values, n)
	for i := range m {
		for j := range n {
			m[i] = append(m[i], new(big.Rat))
			if i == j {
				m[i][j].SetInt64(1)
			}
		}
	}
	return m
}

func times(a, b values) values {
	c := unit(len(a))
	for i := range a {
		for j := range a {
			c[i][j] = new(big.Rat)
			for k := range a {
				c[i][j].Add(c[i][j], new(big.Rat).Mul(a[i][k], b[k][j]))
			}
		}
	}
	return c
}

func same(a, b values) bool {
	return slices.EqualFunc(a, b, func(r, s []*big.Rat) bool {
		return slices.EqualFunc(r, s, func(x, y *big.Rat) bool { return x.Cmp(y) == 0 })
	})
}

func letterOf(n, letter int) values {
	m := unit(n)
	if k := letter; k > 0 {
		m[k-1][k-1], m[k-1][k] = new(big.Rat).Sub(number(1), power(1)), power(1)
		m[k][k-1], m[k][k] = number(1), number(0)
	} else {
		k = -letter
		m[k-1][k-1], m[k-1][k] = number(0), number(1)
		m[k][k-1], m[k][k] = power(-1), new(big.Rat).Sub(number(1), power(-1))
	}
	return m
}

func burauOf(n int, word []int) values {
	m := unit(n)
	for _, letter := range word {
		m = times(m, letterOf(n, letter))
	}
	return m
}

// determinant eliminates, row by row.
func determinant(m values) *big.Rat {
	result := number(1)
	for i := range m {
		pivot := i
		for pivot < len(m) && m[pivot][i].Sign() == 0 {
			pivot++
		}
		if pivot == len(m) {
			return number(0)
		}
		if pivot != i {
			m[i], m[pivot] = m[pivot], m[i]
			result.Neg(result)
		}
		result.Mul(result, m[i][i])
		for j := i + 1; j < len(m); j++ {
			factor := new(big.Rat).Quo(m[j][i], m[i][i])
			for k := i; k < len(m); k++ {
				m[j][k].Sub(m[j][k], new(big.Rat).Mul(factor, m[i][k]))
			}
		}
	}
	return result
}

func alexanderOf(n int, word []int) api.Laurent {
	m := unit(n - 1)
	b := burauOf(n, word)
	for i := range m {
		for j := range m {
			m[i][j].Sub(m[i][j], b[i][j])
		}
	}
	return polynomialOf(determinant(m))
}

// letters returns all letters on n strands.
func letters(n int) []int {
	var list []int
	for k := 1; k < n; k++ {
		list = append(list, k, -k)
	}
	return list
}

// allWords yields all words of at most so many letters.
func allWords(n, most int) func(func([]int) bool) {
	return func(yield func([]int) bool) {
		level := [][]int{nil}
		for length := 0; length <= most; length++ {
			var next [][]int
			for _, word := range level {
				if !yield(word) {
					return
				}
				for _, letter := range letters(n) {
					if length < most {
						next = append(next, append(slices.Clone(word), letter))
					}
				}
			}
			level = next
		}
	}
}

func randomWord(random *rand.Rand, n, length int) []int {
	var word []int
	all := letters(n)
	for range length {
		word = append(word, all[random.Intn(len(all))])
	}
	return word
}

// allPermutations returns all permutations of n elements, in lexicographic order.
func allPermutations(n int) [][]int {
	if n == 0 {
		return [][]int{nil}
	}
	var list [][]int
	for first := range n {
		for _, rest := range allPermutations(n - 1) {
			p := []int{first}
			for _, x := range rest {
				if x >= first {
					x++
				}
				p = append(p, x)
			}
			list = append(list, p)
		}
	}
	return list
}
