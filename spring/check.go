package spring

import "gamp/api"

// maxStiffness is how many digits the numerator and the denominator of a spring's stiffness may have.
const maxStiffness = 20

// readNetwork reads a network and other Nums. It returns ErrForm if any Num is not valid, and otherwise ErrArg if the network is not.
func readNetwork(n int, springs []api.Spring, nums []api.Num) ([]link, []ratio, api.Errno) {
	var links []link
	for _, s := range springs {
		k, valid := read(s.K)
		if !valid {
			return nil, nil, api.ErrForm
		}
		links = append(links, link{s.A, s.B, k})
	}
	numbers, valid := readAll(nums)
	if !valid {
		return nil, nil, api.ErrForm
	}
	if !isNetwork(n, links) {
		return nil, nil, api.ErrArg
	}
	return links, numbers, api.OK
}

func readAll(nums []api.Num) ([]ratio, bool) {
	var numbers []ratio
	for _, num := range nums {
		r, valid := read(num)
		if !valid {
			return nil, false
		}
		numbers = append(numbers, r)
	}
	return numbers, true
}

func isNetwork(n int, links []link) bool {
	if n < 2 || n > api.MaxKnots || len(links) > api.MaxSprings {
		return false
	}
	for _, l := range links {
		if !areTwo(n, l.a, l.b) || l.k.negative || l.k.isZero() || !l.k.fits(maxStiffness) {
			return false
		}
	}
	return true
}

// areTwo reports whether a and b are two different nodes of n.
func areTwo(n, a, b int) bool {
	return isNode(n, a) && isNode(n, b) && a != b
}

func isNode(n, node int) bool {
	return node >= 0 && node < n
}

// write returns ErrRange for a number with too many digits.
func write(r ratio) (api.Num, api.Errno) {
	if !r.fits(api.MaxDigits) {
		return "", api.ErrRange
	}
	return r.text(), api.OK
}

func writeAll(numbers []ratio) ([]api.Num, api.Errno) {
	var nums []api.Num
	for _, r := range numbers {
		num, e := write(r)
		if e != api.OK {
			return nil, e
		}
		nums = append(nums, num)
	}
	return nums, api.OK
}

func writeSprings(links []link) ([]api.Spring, api.Errno) {
	var springs []api.Spring
	for _, l := range links {
		k, e := write(l.k)
		if e != api.OK {
			return nil, e
		}
		springs = append(springs, api.Spring{A: l.a, B: l.b, K: k})
	}
	return springs, api.OK
}
