package fold

import "slices"

// reduceOnce does the first possible step of a reduction, in the memory of lengths, and reports whether there was one.
func reduceOnce(lengths []int, letters string) ([]int, string, bool) {
	n := len(lengths)
	if n < 2 {
		return lengths, letters, false
	}
	if lengths[0] <= lengths[1] {
		return lengths[1:], letters[1:], true
	}
	if lengths[n-1] <= lengths[n-2] {
		return lengths[:n-1], letters[:n-2], true
	}
	for i := 1; i < n-1; i++ {
		if canCrimp(lengths, letters, i) {
			joined := lengths[i-1] - lengths[i] + lengths[i+1]
			lengths = slices.Replace(lengths, i-1, i+2, joined)
			return lengths, letters[:i-1] + letters[i+1:], true
		}
	}
	return lengths, letters, false
}

// canCrimp reports whether a segment that has two neighbours can be folded in between them.
func canCrimp(lengths []int, letters string, i int) bool {
	return lengths[i] <= lengths[i-1] && lengths[i] <= lengths[i+1] && letters[i-1] != letters[i]
}
