package catch

import (
	"strings"

	"gamp/api"
)

// rankDigits is how many digits a rank may have.
const rankDigits = 40

// readRank returns the number that a rank denotes, or why it is refused.
func readRank(rank api.Num) (amount, api.Errno) {
	digits, negative := strings.CutPrefix(string(rank), "-")
	upper, lower, fraction := strings.Cut(digits, "/")
	if !isDecimal(upper) || negative && upper == "0" || fraction && !isDenominator(lower, upper) {
		return nil, api.ErrForm
	}
	if negative || fraction || len(upper) > rankDigits {
		return nil, api.ErrArg
	}
	return amountOf(upper), api.OK
}

// isDecimal reports whether a text is a number of at most MaxDigits decimal digits without leading zeros.
func isDecimal(digits string) bool {
	if digits == "" || len(digits) > api.MaxDigits || digits[0] == '0' && digits != "0" {
		return false
	}
	return strings.Trim(digits, "0123456789") == ""
}

// isDenominator reports whether a text is a denominator in lowest terms with a numerator that has been checked.
func isDenominator(lower, upper string) bool {
	return isDecimal(lower) && lower != "0" && lower != "1" && areCoprime(amountOf(upper), amountOf(lower))
}

// areCoprime reports whether two amounts, the second one above 0, have no common divisor above 1. Differences and odd parts keep the common divisors that are odd.
func areCoprime(a, b amount) bool {
	if len(a) == 0 {
		return b.isOne()
	}
	if a.isEven() && b.isEven() {
		return false
	}
	a, b = a.odd(), b.odd()
	for a.isLess(b) || b.isLess(a) {
		if a.isLess(b) {
			a, b = b, a
		}
		a = a.minus(b).odd()
	}
	return a.isOne()
}

func (a amount) isOne() bool {
	return len(a) == 1 && a[0] == 1
}

func (a amount) isEven() bool {
	return a[0]%2 == 0
}

// odd divides a copy of an amount above 0 by 2 until it is odd.
func (a amount) odd() amount {
	rest := make(amount, len(a))
	copy(rest, a)
	for rest.isEven() {
		carry := uint64(0)
		for i := len(rest) - 1; i >= 0; i-- {
			x := rest[i]
			rest[i] = x/2 + carry*(groupScale/2)
			carry = x % 2
		}
		rest = rest.trimmed()
	}
	return rest
}
