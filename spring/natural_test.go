package spring

import (
	"math/big"
	"math/rand"
	"slices"
	"strings"
	"testing"
)

func bigOf(a natural) *big.Int {
	value := new(big.Int)
	for _, word := range slices.Backward(a) {
		value.Lsh(value, wordBits).Add(value, big.NewInt(int64(word)))
	}
	return value
}

func naturalOfBig(value *big.Int) natural {
	return naturalFrom(value.String())
}

// someNaturals returns numbers of many lengths, among them those with words that are all zeros or all ones.
func someNaturals(random *rand.Rand) []natural {
	all := []natural{nil, {1}, {2}, {lastWord}, {0, 1}, {1, 1}, {lastWord, lastWord}, {0, 0, 1}, {0, 0, 1 << 31}, {lastWord, 0, 1 << 31}}
	for _, size := range []int{1, 2, 3, 4, 5, 8, 13, 40} {
		for range 4 {
			a := make(natural, size)
			for i := range a {
				a[i] = []uint32{random.Uint32(), 0, 1, lastWord, 1 << 31, random.Uint32()}[random.Intn(6)]
			}
			all = append(all, a.trimmed())
		}
	}
	return all
}

func checkNatural(t *testing.T, what string, got natural, want *big.Int) {
	t.Helper()
	if bigOf(got).Cmp(want) != 0 || len(got) > 0 && got[len(got)-1] == 0 {
		t.Errorf("%s = %v, not %v", what, got, want)
	}
}

func TestNaturals(t *testing.T) {
	all := someNaturals(rand.New(rand.NewSource(1)))
	for _, a := range all {
		for _, b := range all {
			x, y := bigOf(a), bigOf(b)
			wasA, wasB := slices.Clone(a), slices.Clone(b)
			what := x.String() + " and " + y.String()
			if c := a.compare(b); c != x.Cmp(y) {
				t.Errorf("compare of %s = %d", what, c)
			}
			checkNatural(t, "sum of "+what, a.plus(b), new(big.Int).Add(x, y))
			checkNatural(t, "product of "+what, a.times(b), new(big.Int).Mul(x, y))
			checkNatural(t, "gcd of "+what, gcd(a, b), new(big.Int).GCD(nil, nil, x, y))
			if x.Cmp(y) >= 0 {
				checkNatural(t, "difference of "+what, a.minus(b), new(big.Int).Sub(x, y))
			}
			if len(b) > 0 {
				quotient, rest := a.over(b)
				q, r := new(big.Int).QuoRem(x, y, new(big.Int))
				checkNatural(t, "quotient of "+what, quotient, q)
				checkNatural(t, "rest of "+what, rest, r)
			}
			if !slices.Equal(a, wasA) || !slices.Equal(b, wasB) {
				t.Fatalf("%s have changed", what)
			}
		}
	}
}

// Quotients whose words are guessed too great by 1 and by 2, and those for which the divisor must be given back.
func TestDivisionGuesses(t *testing.T) {
	random := rand.New(rand.NewSource(2))
	word := func() uint32 {
		return []uint32{0, 1, 2, lastWord, lastWord - 1, 1 << 31, 1<<31 - 1, 1<<31 + 1}[random.Intn(8)]
	}
	for range 50000 {
		a, b := natural{word(), word(), word(), word()}.trimmed(), natural{word(), word(), word() | 1}.trimmed()
		quotient, rest := a.over(b)
		back := quotient.times(b).plus(rest)
		if back.compare(a) != 0 || rest.compare(b) >= 0 {
			t.Fatalf("%v over %v = %v, %v", a, b, quotient, rest)
		}
	}
	a, b := natural{0, 0, 1 << 31, 1<<31 - 1}, natural{1, 0, 1 << 31} // Knuth's exercise 4.3.1-21
	if quotient, rest := a.over(b); quotient.times(b).plus(rest).compare(a) != 0 || rest.compare(b) >= 0 {
		t.Errorf("%v over %v = %v, %v", a, b, quotient, rest)
	}
}

func TestGreatestCommonDivisors(t *testing.T) {
	random := rand.New(rand.NewSource(3))
	limit := func(bits int) *big.Int { return new(big.Int).Lsh(big.NewInt(1), uint(bits)) }
	for range 300 {
		common := new(big.Int).Rand(random, limit(1+random.Intn(900)))
		x := new(big.Int).Rand(random, limit(1+random.Intn(1500)))
		y := new(big.Int).Rand(random, limit(1+random.Intn(1500)))
		x.Mul(x, common)
		y.Mul(y, common)
		checkNatural(t, "gcd of "+x.String()+" and "+y.String(), gcd(naturalOfBig(x), naturalOfBig(y)), new(big.Int).GCD(nil, nil, x, y))
	}
	// Consecutive Fibonacci numbers have quotients of 1 only; their sums with a multiple have long ones.
	x, y := big.NewInt(1), big.NewInt(1)
	for range 900 {
		x, y = y, new(big.Int).Add(x, y)
		checkNatural(t, "gcd of "+x.String()+" and "+y.String(), gcd(naturalOfBig(x), naturalOfBig(y)), big.NewInt(1))
		long := new(big.Int).Add(new(big.Int).Lsh(y, 700), x)
		checkNatural(t, "gcd of "+long.String()+" and "+y.String(), gcd(naturalOfBig(long), naturalOfBig(y)), big.NewInt(1))
	}
}

func TestDecimals(t *testing.T) {
	random := rand.New(rand.NewSource(4))
	digits := []string{"0", "7", "999999999", "1000000000", "1000000001", "4294967295", "4294967296", "18446744073709551616",
		"1" + strings.Repeat("0", 18), "1" + strings.Repeat("0", 3999), strings.Repeat("9", 4000), "12" + strings.Repeat("0", 27) + "34"}
	for range 200 {
		digits = append(digits, new(big.Int).Rand(random, new(big.Int).Lsh(big.NewInt(1), uint(random.Intn(2000)))).String())
	}
	for _, text := range digits {
		want, _ := new(big.Int).SetString(text, 10)
		a := naturalFrom(text)
		checkNatural(t, text, a, want)
		if s := a.decimal(); s != text {
			t.Errorf("%s is written as %s", text, s)
		}
		if n := a.bits(); n != want.BitLen() {
			t.Errorf("%s has %d bits", text, n)
		}
		if n := len(text); text != "0" && (!a.fits(n) || a.fits(n-1)) {
			t.Errorf("%s fits into %d digits: %t, into one less: %t", text, n, a.fits(n), a.fits(n-1))
		}
	}
}
