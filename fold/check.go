package fold

import "gamp/api"

func isStrip(lengths []int) bool {
	return len(lengths) >= 1 && len(lengths) <= api.MaxStrip && areSizes(lengths)
}

func isVertex(angles []int) bool {
	return len(angles) >= 2 && len(angles) <= api.MaxVertex && areSizes(angles)
}

func areSizes(sizes []int) bool {
	for _, size := range sizes {
		if size < 1 || size > api.MaxSize {
			return false
		}
	}
	return true
}

// isOrder reports whether order is a permutation of the numbers of n segments.
func isOrder(order []int, n int) bool {
	if len(order) != n {
		return false
	}
	seen := make([]bool, n)
	for _, segment := range order {
		if segment < 0 || segment >= n || seen[segment] {
			return false
		}
		seen[segment] = true
	}
	return true
}

// isPattern reports whether pattern consists of n letters M and V.
func isPattern(pattern string, n int) bool {
	if len(pattern) != n {
		return false
	}
	for i := range len(pattern) {
		if pattern[i] != 'M' && pattern[i] != 'V' {
			return false
		}
	}
	return true
}
