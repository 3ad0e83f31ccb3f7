package catch

import (
	"strconv"
	"strings"

	"gamp/api"
)

// amount is a number that is 0 or more, in groups of 18 decimal digits, the lowest one first and the highest one not 0.
type amount []uint64

const (
	groupDigits = 18
	groupScale  = 1_000_000_000_000_000_000
)

// added returns a sum of at most 16 parts, behind what the first argument has.
func added(sum amount, parts ...amount) amount {
	carry, more := uint64(0), true
	for i := 0; more || carry > 0; i++ {
		more = false
		for _, part := range parts {
			if i < len(part) {
				carry += part[i]
				more = true
			}
		}
		if more || carry > 0 {
			sum = append(sum, carry%groupScale)
			carry /= groupScale
		}
	}
	return sum
}

func (a amount) isLess(b amount) bool {
	if len(a) != len(b) {
		return len(a) < len(b)
	}
	for i := len(a) - 1; i >= 0; i-- {
		if a[i] != b[i] {
			return a[i] < b[i]
		}
	}
	return false
}

// minus takes away an amount that is not greater.
func (a amount) minus(b amount) amount {
	rest := make(amount, len(a))
	borrow := uint64(0)
	for i, x := range a {
		take := borrow
		if i < len(b) {
			take += b[i]
		}
		borrow = 0
		if x < take {
			x += groupScale
			borrow = 1
		}
		rest[i] = x - take
	}
	return rest.trimmed()
}

// trimmed leaves out the highest groups that are 0.
func (a amount) trimmed() amount {
	for len(a) > 0 && a[len(a)-1] == 0 {
		a = a[:len(a)-1]
	}
	return a
}

func (a amount) text() api.Num {
	if len(a) == 0 {
		return "0"
	}
	text := strconv.FormatUint(a[len(a)-1], 10)
	for i := len(a) - 2; i >= 0; i-- {
		group := strconv.FormatUint(a[i], 10)
		text += strings.Repeat("0", groupDigits-len(group)) + group
	}
	return api.Num(text)
}

// amountOf reads decimal digits.
func amountOf(digits string) amount {
	var a amount
	for end := len(digits); end > 0; end -= groupDigits {
		group := uint64(0)
		for _, c := range []byte(digits[max(0, end-groupDigits):end]) {
			group = group*10 + uint64(c-'0')
		}
		a = append(a, group)
	}
	return a.trimmed()
}
