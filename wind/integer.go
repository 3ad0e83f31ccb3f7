package wind

// integer is an integer of any size; 0 is not negative.
type integer struct {
	negative bool
	size     natural
}

// whole returns 0, 1 or another small number.
func whole(value uint64) integer {
	return integer{false, naturalOf(value)}
}

// signed leaves out the sign of 0.
func signed(negative bool, size natural) integer {
	return integer{negative && len(size) > 0, size}
}

func (a integer) isZero() bool {
	return len(a.size) == 0
}

func (a integer) isOne() bool {
	return a.compare(whole(1)) == 0
}

func (a integer) compare(b integer) int {
	switch {
	case a.negative && b.negative:
		return b.size.compare(a.size)
	case a.negative:
		return -1
	case b.negative:
		return 1
	default:
		return a.size.compare(b.size)
	}
}

func (a integer) plus(b integer) integer {
	switch {
	case a.negative == b.negative:
		return signed(a.negative, a.size.plus(b.size))
	case a.size.compare(b.size) >= 0:
		return signed(a.negative, a.size.minus(b.size))
	default:
		return signed(b.negative, b.size.minus(a.size))
	}
}

func (a integer) minus(b integer) integer {
	return a.plus(signed(!b.negative, b.size))
}

func (a integer) times(b integer) integer {
	return signed(a.negative != b.negative, a.size.times(b.size))
}

// over divides by a divisor of the number that is not 0.
func (a integer) over(b integer) integer {
	quotient, _ := a.size.over(b.size)
	return signed(a.negative != b.negative, quotient)
}

// gcd returns the greatest common divisor; that of 0 and a number is the number without its sign.
func gcd(a, b integer) integer {
	x, y := a.size, b.size
	for len(y) > 0 {
		_, rest := x.over(y)
		x, y = y, rest
	}
	return integer{false, x}
}

// lcm returns the least common multiple of two numbers above 0.
func lcm(a, b integer) integer {
	return a.over(gcd(a, b)).times(b)
}
