package strap

import "slices"

// permutation is the position at which each strand ends. It also stands for its simple braid.
type permutation []int

func permutations(n int) image[permutation] {
	return image[permutation]{
		empty:    identity(n),
		ofLetter: func(letter int) permutation { return exchange(n, letter) },
		product:  permutation.then,
	}
}

func identity(n int) permutation {
	p := make(permutation, n)
	for i := range p {
		p[i] = i
	}
	return p
}

func halfTwist(n int) permutation {
	p := identity(n)
	slices.Reverse(p)
	return p
}

// exchange returns the permutation of a letter.
func exchange(n, letter int) permutation {
	p := identity(n)
	k := max(letter, -letter)
	p[k-1], p[k] = p[k], p[k-1]
	return p
}

// then returns the permutation of a product.
func (p permutation) then(q permutation) permutation {
	product := make(permutation, len(p))
	for i := range p {
		product[i] = q[p[i]]
	}
	return product
}

func (p permutation) inverse() permutation {
	q := make(permutation, len(p))
	for i := range p {
		q[p[i]] = i
	}
	return q
}

// flipped returns what becomes of a simple braid when a half twist passes it.
func (p permutation) flipped() permutation {
	twist := halfTwist(len(p))
	return twist.then(p).then(twist)
}

// word returns the word of a simple braid.
func (p permutation) word() []int {
	var word []int
	rest := slices.Clone(p)
	for {
		i, found := rest.fall()
		if !found {
			return word
		}
		word = append(word, i+1)
		rest[i], rest[i+1] = rest[i+1], rest[i]
	}
}

// fall returns the least position at which a number is greater than the next one, if there is one.
func (p permutation) fall() (int, bool) {
	for i := 0; i+1 < len(p); i++ {
		if p[i] > p[i+1] {
			return i, true
		}
	}
	return 0, false
}

// crossings returns how many pairs of strands cross in a simple braid.
func (p permutation) crossings() int {
	count := 0
	for j := range p {
		for i := range j {
			if p[i] > p[j] {
				count++
			}
		}
	}
	return count
}

func (p permutation) cycles() int {
	count := 0
	seen := make([]bool, len(p))
	for start := range p {
		if !seen[start] {
			count++
		}
		for i := start; !seen[i]; i = p[i] {
			seen[i] = true
		}
	}
	return count
}

func isPermutation(n int, numbers []int) bool {
	if len(numbers) != n {
		return false
	}
	seen := make([]bool, n)
	for _, i := range numbers {
		if i < 0 || i >= n || seen[i] {
			return false
		}
		seen[i] = true
	}
	return true
}
