package spring

import "math/bits"

// overWord returns the quotient and the rest of a division by a word that is not 0.
func (a natural) overWord(divisor uint32) (natural, uint32) {
	quotient := make(natural, len(a))
	rest := uint64(0)
	for i := len(a) - 1; i >= 0; i-- {
		rest = rest<<wordBits | uint64(a[i])
		quotient[i] = uint32(rest / uint64(divisor))
		rest %= uint64(divisor)
	}
	return quotient.trimmed(), uint32(rest)
}

// over returns the quotient and the rest of a division by a number that is not 0 (Knuth, The Art of Computer Programming, 4.3.1, algorithm D).
func (a natural) over(b natural) (natural, natural) {
	if a.compare(b) < 0 {
		return nil, a
	}
	if len(b) == 1 {
		quotient, rest := a.overWord(b[0])
		return quotient, naturalOf(uint64(rest))
	}
	// Guesses at the quotient's words are good only if the divisor's highest bit is set.
	shift := bits.LeadingZeros32(b[len(b)-1])
	rest, divisor := a.raised(shift), b.raised(shift).trimmed()
	quotient := make(natural, len(a)-len(b)+1)
	for i := len(quotient) - 1; i >= 0; i-- {
		quotient[i] = takeAway(rest[i:i+len(b)+1], divisor)
	}
	return quotient.trimmed(), rest.lowered(shift)
}

// raised returns the number times 2^shift, with one word more, which may be 0.
func (a natural) raised(shift int) natural {
	result := make(natural, len(a)+1)
	carry := uint64(0)
	for i, x := range a {
		carry |= uint64(x) << shift
		result[i] = uint32(carry)
		carry >>= wordBits
	}
	result[len(a)] = uint32(carry)
	return result
}

// lowered returns the number divided by 2^shift, which leaves no rest.
func (a natural) lowered(shift int) natural {
	result := make(natural, len(a))
	for i := range result {
		result[i] = uint32((a.word(i+1)<<wordBits | uint64(a[i])) >> shift)
	}
	return result.trimmed()
}

// takeAway takes the divisor away from a part with one word more as often as it can be, which is less than 2^32 times, and returns how often that is.
func takeAway(part, divisor natural) uint32 {
	n := len(divisor)
	high, next := uint64(divisor[n-1]), uint64(divisor[n-2])
	top := uint64(part[n])<<wordBits | uint64(part[n-1])
	times, rest := top/high, top%high
	for rest <= lastWord && (times > lastWord || times*next > rest<<wordBits|uint64(part[n-2])) {
		times--
		rest += high
	}
	carry := uint64(0)
	for i, x := range divisor {
		carry += times * uint64(x)
		difference := uint64(part[i]) - carry&lastWord
		part[i] = uint32(difference)
		carry = carry>>wordBits + difference>>63
	}
	short := uint64(part[n]) < carry
	part[n] -= uint32(carry)
	if short {
		times--
		giveBack(part, divisor)
	}
	return uint32(times)
}

// giveBack adds the divisor to a part from which it was taken away once too often.
func giveBack(part, divisor natural) {
	carry := uint64(0)
	for i, x := range divisor {
		carry += uint64(part[i]) + uint64(x)
		part[i] = uint32(carry)
		carry >>= wordBits
	}
	part[len(divisor)] += uint32(carry)
}
