package strap

import (
	"math/bits"

	"gamp/api"
)

// matrix is a square matrix, by rows.
type matrix [][]entry

func matrices(n int) image[matrix] {
	return image[matrix]{
		empty:    unit(n),
		ofLetter: func(letter int) matrix { return letterMatrix(n, letter) },
		product:  matrix.times,
	}
}

func zeroes(n int) matrix {
	m := make(matrix, n)
	for i := range m {
		m[i] = make([]entry, n)
	}
	return m
}

// unit returns the identity matrix.
func unit(n int) matrix {
	m := zeroes(n)
	for i := range m {
		m[i][i] = entryOf(0, 1)
	}
	return m
}

func letterMatrix(n, letter int) matrix {
	m := unit(n)
	if letter > 0 {
		i, j := letter-1, letter
		m[i][i], m[i][j] = entryOf(0, 1, -1), entryOf(1, 1)
		m[j][i], m[j][j] = entryOf(0, 1), entry{}
		return m
	}
	i, j := -letter-1, -letter
	m[i][i], m[i][j] = entry{}, entryOf(0, 1)
	m[j][i], m[j][j] = entryOf(-1, 1), entryOf(-1, -1, 1)
	return m
}

func (m matrix) times(o matrix) matrix {
	product := zeroes(len(m))
	for i := range m {
		for j := range m {
			for k := range m {
				product[i][j] = product[i][j].plus(m[i][k].times(o[k][j]))
			}
		}
	}
	return product
}

func (m matrix) polynomials() [][]api.Laurent {
	rows := make([][]api.Laurent, len(m))
	for i, row := range m {
		for _, e := range row {
			rows[i] = append(rows[i], e.Laurent)
		}
	}
	return rows
}

// alexander returns the Alexander polynomial of a word with this matrix.
func (m matrix) alexander() api.Laurent {
	rest := unit(len(m) - 1)
	for i := range rest {
		for j := range rest {
			rest[i][j] = rest[i][j].plus(m[i][j].negative())
		}
	}
	return rest.determinant().normalized().Laurent
}

// determinant finds, for each set of columns, the minor of these columns and as many first rows, by its last row.
// It divides by nothing, so that numbers that wrap around on the way do no harm as long as the coefficients of the result fit. For alexander they do: the determinant is also one with a row for each letter, in which the coefficients have the sum 4 without their signs, and so none of its own is above 4^MaxBurau = 2^48.
func (m matrix) determinant() entry {
	minors := make([]entry, 1<<len(m))
	minors[0] = entryOf(0, 1)
	for set := 1; set < len(minors); set++ {
		row := m[bits.OnesCount(uint(set))-1]
		for column, e := range row {
			if set>>column&1 == 0 {
				continue
			}
			term := e.times(minors[set&^(1<<column)])
			if bits.OnesCount(uint(set>>(column+1)))%2 == 1 {
				term = term.negative()
			}
			minors[set] = minors[set].plus(term)
		}
	}
	return minors[len(minors)-1]
}
