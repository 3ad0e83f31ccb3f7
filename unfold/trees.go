package unfold

import "math/bits"

// prime is greater than any number of spanning trees, so that they can be counted modulo it.
const prime = 1<<61 - 1

// trees returns the number of spanning trees: Kirchhoff's determinant, for which a matrix has a row and a column for each face but face 0. Its leading minors, which are above 0 and not greater than the product of their diagonals (Hadamard), are at most 4^25, which is less than the prime; so the determinant is exact, and nothing is divided by 0.
func (s surface) trees() uint64 {
	rows := make([][]uint64, len(s.faces))
	for i := range rows {
		rows[i] = make([]uint64, len(s.faces))
	}
	for _, j := range s.joints {
		rows[j.A][j.A]++
		rows[j.B][j.B]++
		rows[j.A][j.B] = prime - 1
		rows[j.B][j.A] = prime - 1
	}
	for i := range rows {
		rows[i] = rows[i][1:]
	}
	return determinant(rows[1:])
}

// determinant computes modulo the prime, in the memory of the rows.
func determinant(rows [][]uint64) uint64 {
	product := uint64(1)
	for i, row := range rows {
		product = times(product, row[i])
		inverse := power(row[i], prime-2)
		for _, other := range rows[i+1:] {
			factor := prime - times(other[i], inverse)
			for k := i; k < len(row); k++ {
				other[k] = (other[k] + times(factor, row[k])) % prime
			}
		}
	}
	return product
}

func times(a, b uint64) uint64 {
	high, low := bits.Mul64(a, b)
	return bits.Rem64(high, low, prime)
}

func power(base, exponent uint64) uint64 {
	result := uint64(1)
	for ; exponent > 0; exponent /= 2 {
		if exponent%2 == 1 {
			result = times(result, base)
		}
		base = times(base, base)
	}
	return result
}
