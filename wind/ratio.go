package wind

import (
	"strings"

	"gamp/api"
)

// ratio is a rational number in lowest terms, with a denominator above 0.
type ratio struct {
	upper, lower integer
}

// read returns the number that a Num denotes, and whether it is valid.
func read(text api.Num) (ratio, bool) {
	digits, negative := strings.CutPrefix(string(text), "-")
	upper, lower, slash := strings.Cut(digits, "/")
	if !slash {
		lower = "1"
	}
	if !isDecimal(upper) || !isDecimal(lower) || negative && upper == "0" || slash && lower == "1" || lower == "0" {
		return ratio{}, false
	}
	r := ratio{integer{negative, naturalFrom(upper)}, integer{false, naturalFrom(lower)}}
	return r, gcd(r.upper, r.lower).isOne()
}

// isDecimal reports whether a text is a number of at most MaxDigits decimal digits without leading zeros.
func isDecimal(digits string) bool {
	if len(digits) < 1 || len(digits) > api.MaxDigits || len(digits) > 1 && digits[0] == '0' {
		return false
	}
	for i := range len(digits) {
		if digits[i] < '0' || digits[i] > '9' {
			return false
		}
	}
	return true
}

// areNums reports whether all the texts are valid Nums.
func areNums(texts ...api.Num) bool {
	for _, text := range texts {
		if _, valid := read(text); !valid {
			return false
		}
	}
	return true
}

// shortDigits is how many digits the numerators and denominators of a game may have.
const shortDigits = 12

// readShort returns the number that a Num of a game denotes, and whether it is valid and short.
func readShort(text api.Num) (ratio, bool) {
	r, valid := read(text)
	return r, valid && r.fits(shortDigits)
}

func (r ratio) fits(digits int) bool {
	return r.upper.size.fits(digits) && r.lower.size.fits(digits)
}

// scaled returns the number times a multiple of its denominator.
func (r ratio) scaled(multiple integer) integer {
	return multiple.over(r.lower).times(r.upper)
}

// quotient returns a number divided by one above 0.
func quotient(upper, lower integer) ratio {
	common := gcd(upper, lower)
	return ratio{upper.over(common), lower.over(common)}
}

func (r ratio) text() api.Num {
	text := r.upper.size.decimal()
	if r.upper.negative {
		text = "-" + text
	}
	if !r.lower.isOne() {
		text += "/" + r.lower.size.decimal()
	}
	return api.Num(text)
}
