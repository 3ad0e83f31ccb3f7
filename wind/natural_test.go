package wind

import (
	"math"
	"math/big"
	"math/rand"
	"slices"
	"strings"
	"testing"

	"gamp/api"
)

func bigOf(a natural) *big.Int {
	value := new(big.Int)
	for _, word := range slices.Backward(a) {
		value.Lsh(value, wordBits).Add(value, new(big.Int).SetUint64(word))
	}
	return value
}

func bigOfInteger(a integer) *big.Int {
	if a.negative {
		return new(big.Int).Neg(bigOf(a.size))
	}
	return bigOf(a.size)
}

func edgeWord(random *rand.Rand) uint64 {
	words := []uint64{0, 1, 2, math.MaxUint64, math.MaxUint64 - 1, 1 << 63, 1<<63 - 1, 1<<63 + 1, random.Uint64(), random.Uint64()}
	return words[random.Intn(len(words))]
}

// someNaturals returns numbers of many lengths, among them those with words that are all zeros or all ones.
func someNaturals(random *rand.Rand) []natural {
	all := []natural{nil, {1}, {2}, {0, 1}, {1, 1}, {0, 0, 1}, {chunkScale}, {chunkScale - 1}}
	for _, size := range []int{1, 2, 3, 4, 5, 8, 13, 40} {
		for range 6 {
			a := make(natural, size)
			for i := range a {
				a[i] = edgeWord(random)
			}
			all = append(all, a.trimmed())
		}
	}
	return all
}

func checkNatural(t *testing.T, what string, got natural, want *big.Int) {
	t.Helper()
	if bigOf(got).Cmp(want) != 0 || len(got) > 0 && got[len(got)-1] == 0 {
		t.Errorf("%s = %v, not %v", what, got, want)
	}
}

func TestNaturals(t *testing.T) {
	all := someNaturals(rand.New(rand.NewSource(1)))
	for _, a := range all {
		for _, b := range all {
			x, y := bigOf(a), bigOf(b)
			wasA, wasB := slices.Clone(a), slices.Clone(b)
			what := x.String() + " and " + y.String()
			if c := a.compare(b); c != x.Cmp(y) {
				t.Errorf("compare of %s = %d", what, c)
			}
			checkNatural(t, "sum of "+what, a.plus(b), new(big.Int).Add(x, y))
			checkNatural(t, "product of "+what, a.times(b), new(big.Int).Mul(x, y))
			if x.Cmp(y) >= 0 {
				checkNatural(t, "difference of "+what, a.minus(b), new(big.Int).Sub(x, y))
			}
			if len(b) > 0 {
				quotient, rest := a.over(b)
				q, r := new(big.Int).QuoRem(x, y, new(big.Int))
				checkNatural(t, "quotient of "+what, quotient, q)
				checkNatural(t, "rest of "+what, rest, r)
			}
			if !slices.Equal(a, wasA) || !slices.Equal(b, wasB) {
				t.Fatalf("%s have changed", what)
			}
		}
	}
}

// Quotients whose words are guessed too great by 1 and by 2, so that the divisor must be given back once and twice.
func TestDivisionGuesses(t *testing.T) {
	random := rand.New(rand.NewSource(2))
	for range 100000 {
		a := natural{edgeWord(random), edgeWord(random), edgeWord(random), edgeWord(random)}.trimmed()
		b := natural{edgeWord(random), edgeWord(random), edgeWord(random) | 1}[random.Intn(3):]
		quotient, rest := a.over(b)
		if quotient.times(b).plus(rest).compare(a) != 0 || rest.compare(b) >= 0 {
			t.Fatalf("%v over %v = %v, %v", a, b, quotient, rest)
		}
	}
}

func TestIntegers(t *testing.T) {
	sizes := someNaturals(rand.New(rand.NewSource(3)))
	var all []integer
	for _, size := range sizes {
		all = append(all, signed(false, size), signed(true, size))
	}
	check := func(what string, got integer, want *big.Int) {
		t.Helper()
		if bigOfInteger(got).Cmp(want) != 0 || got.negative && got.isZero() {
			t.Errorf("%s = %v, not %v", what, got, want)
		}
	}
	for _, a := range all {
		for _, b := range all {
			x, y := bigOfInteger(a), bigOfInteger(b)
			what := x.String() + " and " + y.String()
			if c := a.compare(b); c != x.Cmp(y) {
				t.Errorf("compare of %s = %d", what, c)
			}
			check("sum of "+what, a.plus(b), new(big.Int).Add(x, y))
			check("difference of "+what, a.minus(b), new(big.Int).Sub(x, y))
			check("product of "+what, a.times(b), new(big.Int).Mul(x, y))
			if !b.isZero() {
				check("quotient of the product and one of "+what, a.times(b).over(b), x)
			}
			size, other := new(big.Int).Abs(x), new(big.Int).Abs(y)
			common := new(big.Int).GCD(nil, nil, size, other)
			check("gcd of "+what, gcd(a, b), common)
			if x.Sign() > 0 && y.Sign() > 0 {
				check("lcm of "+what, lcm(a, b), new(big.Int).Mul(x, new(big.Int).Quo(y, common)))
			}
		}
	}
}

func TestDecimals(t *testing.T) {
	random := rand.New(rand.NewSource(4))
	texts := []string{"0", "7", "9999999999999999999", "10000000000000000000", "10000000000000000001", "18446744073709551615", "18446744073709551616", "99999999999999999999",
		"1" + strings.Repeat("0", 38), "1" + strings.Repeat("0", 3999), strings.Repeat("9", 4000), "12" + strings.Repeat("0", 57) + "34"}
	for range 300 {
		texts = append(texts, new(big.Int).Rand(random, new(big.Int).Lsh(big.NewInt(1), uint(random.Intn(2000)))).String())
	}
	for _, text := range texts {
		want, _ := new(big.Int).SetString(text, 10)
		a := naturalFrom(text)
		checkNatural(t, text, a, want)
		if s := a.decimal(); s != text {
			t.Errorf("%s is written as %s", text, s)
		}
		if n := len(text); !a.fits(n) || a.fits(n-1) {
			t.Errorf("%s fits into %d digits: %t, into one less: %t", text, n, a.fits(n), a.fits(n-1))
		}
	}
}

// All short texts are valid Nums or not as the definition says: those that are written back in the same way.
func TestShortTexts(t *testing.T) {
	const letters = "-/0124"
	texts := []string{""}
	for range 5 {
		for _, text := range texts {
			for _, letter := range letters {
				texts = append(texts, text+string(letter))
			}
		}
		slices.Sort(texts)
		texts = slices.Compact(texts)
	}
	for _, text := range texts {
		value, ok := new(big.Rat).SetString(text)
		want := ok && value.RatString() == text
		r, valid := read(api.Num(text))
		if valid != want || valid && string(r.text()) != text {
			t.Errorf("read(%q) = %v, %t", text, r, valid)
		}
	}
}
