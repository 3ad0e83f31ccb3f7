package spring

import "slices"

// gcd returns the greatest common divisor; that of 0 and a number is the number. Where Euclid's algorithm would divide long numbers for each small quotient, the quotients are found from the highest bits, and many steps are done at once (Lehmer).
func gcd(a, b natural) natural {
	if a.compare(b) < 0 {
		a, b = b, a
	}
	x, y := slices.Clone(a), slices.Clone(b)
	for len(y) > 2 {
		s := stepsOf(x, y)
		if s.none() {
			_, rest := x.over(y)
			x, y = y, rest
		} else {
			x, y = s.done(x, y)
		}
	}
	if len(y) == 0 {
		return x
	}
	_, rest := x.over(y)
	return naturalOf(gcdOfWords(y.from(0), rest.from(0)))
}

func gcdOfWords(x, y uint64) uint64 {
	for y > 0 {
		x, y = y, x%y
	}
	return x
}

// from returns the number without its lowest bits; what remains has at most 64.
func (a natural) from(bit int) uint64 {
	value := uint64(0)
	for i := bit / wordBits; i < len(a); i++ {
		shift := i*wordBits - bit
		if shift < 0 {
			value |= uint64(a[i]) >> -shift
		} else {
			value |= uint64(a[i]) << shift
		}
	}
	return value
}

// steps are some steps of Euclid's algorithm with x and y: they turn x into x0·x + y0·y, and y into x1·x + y1·y.
type steps struct {
	x0, y0, x1, y1 int64
}

// topBits is how many of the highest bits decide about steps: so many that the factors, which have at most half as many bits, are below 2^31.
const topBits = 62

// stepsOf returns the steps that are certain, whatever the lower bits of x and y are (Collins' condition, as in Jebelean, A Double-Digit Lehmer-Euclid Algorithm). The factors change their signs from step to step.
func stepsOf(x, y natural) steps {
	bit := x.bits() - topBits
	high, low := x.from(bit), y.from(bit)
	var x0, x1, x2, y0, y1, y2 uint64 = 0, 1, 0, 0, 0, 1
	sign := int64(-1)
	for low >= y2 && high-low >= y1+y2 {
		quotient := high / low
		high, low = low, high%low
		x0, x1, x2 = x1, x2, x1+quotient*x2
		y0, y1, y2 = y1, y2, y1+quotient*y2
		sign = -sign
	}
	return steps{sign * int64(x0), -sign * int64(y0), -sign * int64(x1), sign * int64(y1)}
}

// none reports whether the steps do not make x and y smaller.
func (s steps) none() bool {
	return s.y0 == 0
}

// done does the steps in the memory of x and y. The words times the factors, of which one is above and one below 0, do not overflow.
func (s steps) done(x, y natural) (natural, natural) {
	y = append(y, make(natural, len(x)-len(y))...)
	carryX, carryY := int64(0), int64(0)
	for i := range x {
		wordX, wordY := int64(x[i]), int64(y[i])
		carryX += s.x0*wordX + s.y0*wordY
		carryY += s.x1*wordX + s.y1*wordY
		x[i], y[i] = uint32(carryX), uint32(carryY)
		carryX >>= wordBits
		carryY >>= wordBits
	}
	return x.trimmed(), y.trimmed()
}
