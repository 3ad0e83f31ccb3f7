package spring

import (
	"math/big"
	"math/rand"
	"testing"

	"gamp/api"
)

func ratioOf(t *testing.T, value *big.Rat) ratio {
	t.Helper()
	r, valid := read(api.Num(value.RatString()))
	if !valid {
		t.Fatalf("%s is not valid", value.RatString())
	}
	return r
}

func checkRatio(t *testing.T, what string, got ratio, want *big.Rat) {
	t.Helper()
	if string(got.text()) != want.RatString() {
		t.Errorf("%s = %s, not %s", what, got.text(), want.RatString())
	}
}

// someRatios returns numbers of many lengths, among them pairs with common divisors.
func someRatios(random *rand.Rand) []*big.Rat {
	all := []*big.Rat{big.NewRat(0, 1), big.NewRat(1, 1), big.NewRat(-1, 1), big.NewRat(1, 2), big.NewRat(-1, 2), big.NewRat(6, 35),
		big.NewRat(-35, 6), big.NewRat(1, 6), big.NewRat(1, 3), big.NewRat(5, 6), big.NewRat(7, 1000000007)}
	common := new(big.Int).Rand(random, new(big.Int).Lsh(big.NewInt(1), 200))
	for _, bits := range []uint{10, 31, 32, 64, 65, 200, 700} {
		for range 3 {
			limit := new(big.Int).Lsh(big.NewInt(1), bits)
			num, den := new(big.Int).Rand(random, limit), new(big.Int).Rand(random, limit)
			den.Add(den, big.NewInt(1))
			plain, long := new(big.Rat).SetFrac(num, den), new(big.Rat).SetFrac(num, new(big.Int).Mul(den, common))
			all = append(all, plain, long, new(big.Rat).Neg(long), new(big.Rat).Inv(new(big.Rat).Add(long, big.NewRat(1, 1))))
		}
	}
	return all
}

func TestRatios(t *testing.T) {
	all := someRatios(rand.New(rand.NewSource(5)))
	for _, x := range all {
		r := ratioOf(t, x)
		checkRatio(t, "itself", r, x)
		checkRatio(t, "opposite of "+x.RatString(), r.opposite(), new(big.Rat).Neg(x))
		if r.isZero() != (x.Sign() == 0) {
			t.Errorf("%s is zero: %t", x.RatString(), r.isZero())
		}
		for _, y := range all {
			s := ratioOf(t, y)
			what := x.RatString() + " and " + y.RatString()
			checkRatio(t, "sum of "+what, r.plus(s), new(big.Rat).Add(x, y))
			checkRatio(t, "difference of "+what, r.minus(s), new(big.Rat).Sub(x, y))
			checkRatio(t, "product of "+what, r.times(s), new(big.Rat).Mul(x, y))
			if y.Sign() != 0 {
				checkRatio(t, "quotient of "+what, r.over(s), new(big.Rat).Quo(x, y))
			}
		}
	}
}
