package wind

import (
	"cmp"
	"math"
	"math/bits"
	"strconv"
	"strings"
)

// natural is a natural number in words of 64 bits, the lowest one first and the highest one not 0. Numbers may share memory, so no number is changed once others can see it.
type natural []uint64

const (
	wordBits = 64

	// Decimal digits are read and written in chunks of 19, the most that fit into a word.
	chunkDigits = 19
	chunkScale  = 10_000_000_000_000_000_000
)

func naturalOf(value uint64) natural {
	return natural{value}.trimmed()
}

// trimmed leaves out the highest words that are 0.
func (a natural) trimmed() natural {
	for len(a) > 0 && a[len(a)-1] == 0 {
		a = a[:len(a)-1]
	}
	return a
}

// word returns 0 beyond the highest word.
func (a natural) word(i int) uint64 {
	if i >= len(a) {
		return 0
	}
	return a[i]
}

func (a natural) compare(b natural) int {
	for i := max(len(a), len(b)) - 1; i >= 0; i-- {
		if c := cmp.Compare(a.word(i), b.word(i)); c != 0 {
			return c
		}
	}
	return 0
}

func (a natural) plus(b natural) natural {
	sum := make(natural, max(len(a), len(b))+1)
	carry := uint64(0)
	for i := range sum {
		sum[i], carry = bits.Add64(a.word(i), b.word(i), carry)
	}
	return sum.trimmed()
}

// minus takes away a number that is not greater.
func (a natural) minus(b natural) natural {
	rest := make(natural, len(a))
	borrow := uint64(0)
	for i := range rest {
		rest[i], borrow = bits.Sub64(a[i], b.word(i), borrow)
	}
	return rest.trimmed()
}

func (a natural) times(b natural) natural {
	product := make(natural, len(a)+len(b))
	for i, x := range a {
		part, over := product[i:i+len(b)], uint64(0)
		for j, y := range b {
			high, low := bits.Mul64(x, y)
			low, carry := bits.Add64(low, over, 0)
			high += carry
			part[j], carry = bits.Add64(part[j], low, 0)
			over = high + carry
		}
		product[i+len(b)] = over
	}
	return product.trimmed()
}

// over returns the quotient and the rest of a division by a number that is not 0 (Knuth, The Art of Computer Programming, 4.3.1, algorithm D).
func (a natural) over(b natural) (natural, natural) {
	if a.compare(b) < 0 {
		return nil, a
	}
	// Guesses at the quotient's words are good only if the divisor's highest bit is set.
	shift := bits.LeadingZeros64(b[len(b)-1])
	rest, divisor := a.raised(shift), b.raised(shift).trimmed()
	quotient := make(natural, len(a)-len(b)+1)
	for i := len(quotient) - 1; i >= 0; i-- {
		quotient[i] = takeAway(rest[i:i+len(b)+1], divisor)
	}
	return quotient.trimmed(), rest.lowered(shift)
}

// raised returns the number times 2^shift, with one word more, which may be 0.
func (a natural) raised(shift int) natural {
	result := make(natural, len(a)+1)
	for i, x := range a {
		result[i] |= x << shift
		result[i+1] = x >> (wordBits - shift)
	}
	return result
}

// lowered returns the number divided by 2^shift, which leaves no rest.
func (a natural) lowered(shift int) natural {
	result := make(natural, len(a))
	for i, x := range a {
		result[i] = x>>shift | a.word(i+1)<<(wordBits-shift)
	}
	return result.trimmed()
}

// takeAway takes the divisor away from a part with one word more as often as it can be, which is less than 2^64 times, and returns how often that is. The first guess is too great by at most 2 (Knuth's theorem B).
func takeAway(part, divisor natural) uint64 {
	n := len(divisor)
	times := uint64(math.MaxUint64)
	if part[n] < divisor[n-1] {
		times, _ = bits.Div64(part[n], part[n-1], divisor[n-1])
	}
	over, borrow := uint64(0), uint64(0)
	for i, x := range divisor {
		high, low := bits.Mul64(times, x)
		low, carry := bits.Add64(low, over, 0)
		over = high + carry
		part[i], borrow = bits.Sub64(part[i], low, borrow)
	}
	part[n], borrow = bits.Sub64(part[n], over, borrow)
	for borrow > 0 {
		times--
		borrow -= giveBack(part, divisor)
	}
	return times
}

// giveBack adds the divisor to a part from which it was taken away once too often, and returns the carry, which is 1 when the part is no longer below 0.
func giveBack(part, divisor natural) uint64 {
	carry := uint64(0)
	for i := range part {
		part[i], carry = bits.Add64(part[i], divisor.word(i), carry)
	}
	return carry
}

// naturalFrom reads decimal digits.
func naturalFrom(digits string) natural {
	var number natural
	for len(digits) > 0 {
		size := (len(digits)-1)%chunkDigits + 1
		chunk := uint64(0)
		for i := range size {
			chunk = chunk*10 + uint64(digits[i]-'0')
		}
		digits = digits[size:]
		number = number.times(naturalOf(chunkScale)).plus(naturalOf(chunk))
	}
	return number
}

func (a natural) decimal() string {
	text, scale := "", naturalOf(chunkScale)
	for a.compare(scale) >= 0 {
		quotient, rest := a.over(scale)
		chunk := strconv.FormatUint(rest.word(0), 10)
		text = strings.Repeat("0", chunkDigits-len(chunk)) + chunk + text
		a = quotient
	}
	return strconv.FormatUint(a.word(0), 10) + text
}

// fits reports whether the number has at most so many decimal digits. Each word below the highest one is more than a chunk, so that no long number is written in decimal only to be counted.
func (a natural) fits(digits int) bool {
	return (len(a)-1)*chunkDigits < digits && len(a.decimal()) <= digits
}
