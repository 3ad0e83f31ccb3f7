package spring

import (
	"strings"

	"gamp/api"
)

// ratio is a rational number in lowest terms; 0 is not negative, and has the denominator 1.
type ratio struct {
	negative bool
	num, den natural
}

// whole returns 0, 1 or another small number.
func whole(value uint64) ratio {
	return ratio{false, naturalOf(value), naturalOf(1)}
}

func (r ratio) isZero() bool {
	return len(r.num) == 0
}

// opposite returns the number with the other sign.
func (r ratio) opposite() ratio {
	return ratio{!r.negative && !r.isZero(), r.num, r.den}
}

// plus divides by no greater number than a common divisor of the denominators, which is what makes long sums quick (Knuth, The Art of Computer Programming, 4.5.1).
func (r ratio) plus(s ratio) ratio {
	common := gcd(r.den, s.den)
	restR, restS := without(r.den, common), without(s.den, common)
	negative, num := added(r.negative, r.num.times(restS), s.negative, s.num.times(restR))
	common = gcd(num, common)
	return ratio{negative, without(num, common), restR.times(without(s.den, common))}
}

func (r ratio) minus(s ratio) ratio {
	return r.plus(s.opposite())
}

// times keeps the numbers small by leaving out common divisors before it multiplies.
func (r ratio) times(s ratio) ratio {
	first, second := gcd(r.num, s.den), gcd(s.num, r.den)
	num := without(r.num, first).times(without(s.num, second))
	den := without(r.den, second).times(without(s.den, first))
	return ratio{r.negative != s.negative && len(num) > 0, num, den}
}

// over divides by a number that is not 0.
func (r ratio) over(s ratio) ratio {
	return r.times(ratio{s.negative, s.den, s.num})
}

// without returns a number divided by a divisor of it.
func without(a, divisor natural) natural {
	if divisor.isOne() {
		return a
	}
	quotient, _ := a.over(divisor)
	return quotient
}

// added returns the sum of two numbers with signs.
func added(negativeA bool, a natural, negativeB bool, b natural) (bool, natural) {
	if negativeA == negativeB {
		return negativeA, a.plus(b)
	}
	switch a.compare(b) {
	case 1:
		return negativeA, a.minus(b)
	case -1:
		return negativeB, b.minus(a)
	default:
		return false, nil
	}
}

// read returns the number that a Num denotes, and whether it is valid.
func read(text api.Num) (ratio, bool) {
	digits, negative := strings.CutPrefix(string(text), "-")
	upper, lower, slash := strings.Cut(digits, "/")
	if !slash {
		lower = "1"
	}
	if !isDecimal(upper) || !isDecimal(lower) || slash && lower == "1" || negative && upper == "0" {
		return ratio{}, false
	}
	r := ratio{negative, naturalFrom(upper), naturalFrom(lower)}
	return r, len(r.den) > 0 && gcd(r.num, r.den).isOne()
}

// isDecimal reports whether a text is a number of at most MaxDigits decimal digits without leading zeros.
func isDecimal(digits string) bool {
	if len(digits) < 1 || len(digits) > api.MaxDigits || len(digits) > 1 && digits[0] == '0' {
		return false
	}
	for i := range len(digits) {
		if digits[i] < '0' || digits[i] > '9' {
			return false
		}
	}
	return true
}

// fits reports whether the numerator and the denominator have at most so many digits.
func (r ratio) fits(digits int) bool {
	return r.num.fits(digits) && r.den.fits(digits)
}

func (r ratio) text() api.Num {
	text := r.num.decimal()
	if r.negative {
		text = "-" + text
	}
	if !r.den.isOne() {
		text += "/" + r.den.decimal()
	}
	return api.Num(text)
}
