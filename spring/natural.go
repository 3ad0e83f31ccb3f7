package spring

import (
	"cmp"
	"math/bits"
	"slices"
	"strconv"
	"strings"
)

// natural is a natural number in words of 32 bits, the lowest one first and the highest one not 0. Numbers may share memory, so no number is changed once others can see it.
type natural []uint32

const (
	wordBits = 32
	lastWord = 1<<wordBits - 1

	// Decimal digits are read and written in chunks of 9, the most that fit into a word.
	chunkDigits = 9
	chunkScale  = 1_000_000_000
)

func naturalOf(value uint64) natural {
	return natural{uint32(value), uint32(value >> wordBits)}.trimmed()
}

// trimmed leaves out the highest words that are 0.
func (a natural) trimmed() natural {
	n := len(a)
	for n > 0 && a[n-1] == 0 {
		n--
	}
	return a[:n]
}

// word returns 0 beyond the highest word.
func (a natural) word(i int) uint64 {
	if i < len(a) {
		return uint64(a[i])
	}
	return 0
}

// bits returns how many binary digits the number has.
func (a natural) bits() int {
	if len(a) == 0 {
		return 0
	}
	return len(a)*wordBits - bits.LeadingZeros32(a[len(a)-1])
}

func (a natural) compare(b natural) int {
	if len(a) != len(b) {
		return cmp.Compare(len(a), len(b))
	}
	for i := len(a) - 1; i >= 0; i-- {
		if a[i] != b[i] {
			return cmp.Compare(a[i], b[i])
		}
	}
	return 0
}

func (a natural) isOne() bool {
	return len(a) == 1 && a[0] == 1
}

func (a natural) plus(b natural) natural {
	sum := make(natural, max(len(a), len(b))+1)
	carry := uint64(0)
	for i := range sum {
		carry += a.word(i) + b.word(i)
		sum[i] = uint32(carry)
		carry >>= wordBits
	}
	return sum.trimmed()
}

// minus takes away a number that is not greater.
func (a natural) minus(b natural) natural {
	rest := make(natural, len(a))
	borrow := int64(0)
	for i := range rest {
		borrow += int64(a[i]) - int64(b.word(i))
		rest[i] = uint32(borrow)
		borrow >>= wordBits
	}
	return rest.trimmed()
}

func (a natural) times(b natural) natural {
	product := make(natural, len(a)+len(b))
	for i, x := range a {
		carry := uint64(0)
		row := product[i : i+len(b)]
		for j, y := range b {
			carry += uint64(x)*uint64(y) + uint64(row[j])
			row[j] = uint32(carry)
			carry >>= wordBits
		}
		product[i+len(b)] = uint32(carry)
	}
	return product.trimmed()
}

// naturalFrom reads decimal digits.
func naturalFrom(digits string) natural {
	number := make(natural, 0, len(digits)/chunkDigits+1)
	for len(digits) > 0 {
		size := (len(digits)-1)%chunkDigits + 1
		carry := uint64(0)
		for i := range size {
			carry = carry*10 + uint64(digits[i]-'0')
		}
		digits = digits[size:]
		for i := range number {
			carry += uint64(number[i]) * chunkScale
			number[i] = uint32(carry)
			carry >>= wordBits
		}
		number = append(number, uint32(carry)).trimmed()
	}
	return number
}

func (a natural) decimal() string {
	if len(a) == 0 {
		return "0"
	}
	var chunks []string
	for len(a) > 0 {
		quotient, rest := a.overWord(chunkScale)
		a = quotient
		chunk := strconv.Itoa(int(rest))
		if len(a) > 0 {
			chunk = strings.Repeat("0", chunkDigits-len(chunk)) + chunk
		}
		chunks = append(chunks, chunk)
	}
	slices.Reverse(chunks)
	return strings.Join(chunks, "")
}

// fits reports whether the number has at most so many decimal digits. Four bits are more than a digit, so that no long number is written in decimal only to be counted.
func (a natural) fits(digits int) bool {
	return a.bits() <= 4*digits && len(a.decimal()) <= digits
}
