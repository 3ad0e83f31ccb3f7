package strap_test

import (
	"slices"
	"testing"

	"gamp/api"
	"gamp/strap"
)

const (
	least = -1 << 63
	most  = 1<<63 - 1
)

// zeroWith fails unless a call returned one error and otherwise zero values.
func zeroWith(t *testing.T, call string, want, got api.Errno, zero bool) {
	t.Helper()
	if got != want || !zero {
		t.Errorf("%s: error %d, not %d; the other results are zero: %t", call, got, want, zero)
	}
}

// refused fails unless all functions of one word return an error; those with a matrix may have another one.
func refused(t *testing.T, n int, word []int, want, wantOfMatrix api.Errno) {
	t.Helper()
	if want != api.OK {
		p, e := strap.Perm(n, word)
		zeroWith(t, "Perm", want, e, len(p) == 0)
		b, e := strap.Normal(n, word)
		zeroWith(t, "Normal", want, e, b.Power == 0 && len(b.Factors) == 0)
		loops, e := strap.Loops(n, word)
		zeroWith(t, "Loops", want, e, loops == 0)
		for _, other := range [][]int{nil, {1}, word} {
			equal, e := strap.Equal(n, word, other)
			zeroWith(t, "Equal", want, e, !equal)
		}
	}
	m, e := strap.Burau(n, word)
	zeroWith(t, "Burau", wantOfMatrix, e, len(m) == 0)
	a, e := strap.Alexander(n, word)
	zeroWith(t, "Alexander", wantOfMatrix, e, a.Low == 0 && len(a.Coef) == 0)
}

func TestErrArg(t *testing.T) {
	for _, n := range []int{1, 0, -1, -2, -8, 9, 10, 1 << 32, 1<<32 + 2, least, most} {
		for _, word := range [][]int{nil, {}, {1}, {0}, {9}, {least}, slices.Repeat([]int{1}, 61), make([]int, 100000)} {
			refused(t, n, word, api.ErrArg, api.ErrArg)
			equal, e := strap.Equal(n, nil, word)
			zeroWith(t, "Equal", api.ErrArg, e, !equal)
		}
		for _, b := range []api.Braid{{}, {Power: most}, {Factors: [][]int{nil}}, {Factors: [][]int{{0, 2, 1}}}} {
			ok, e := strap.Is(n, b)
			zeroWith(t, "Is", api.ErrArg, e, !ok)
			word, e := strap.Word(n, b)
			zeroWith(t, "Word", api.ErrArg, e, len(word) == 0)
		}
	}
}

func TestErrForm(t *testing.T) {
	for n := 2; n <= api.MaxStrands; n++ {
		for _, bad := range []int{0, n, -n, n + 1, -n - 1, 64, least, least + 1, most, 1<<32 + 1, -1<<32 - 1, 256 + 1} {
			for _, length := range []int{0, 1, 23, 24, 59, 60, 61, 100000} {
				good := slices.Repeat([]int{1}, length)
				refused(t, n, append([]int{bad}, good...), api.ErrForm, api.ErrForm)
				refused(t, n, append(good, bad), api.ErrForm, api.ErrForm)
			}
		}
		for k := 1; k < n; k++ {
			for _, letter := range []int{k, -k} {
				if _, e := strap.Normal(n, []int{letter}); e != api.OK {
					t.Errorf("Normal(%d, %d): %d", n, letter, e)
				}
			}
		}
	}
}

func TestErrLong(t *testing.T) {
	for n := 2; n <= api.MaxStrands; n++ {
		refused(t, n, slices.Repeat([]int{n - 1}, 61), api.ErrLong, api.ErrLong)
		refused(t, n, slices.Repeat([]int{1, -1}, 50000), api.ErrLong, api.ErrLong)
		refused(t, n, slices.Repeat([]int{1 - n}, 60), api.OK, api.ErrLong)
		refused(t, n, slices.Repeat([]int{1 - n}, 25), api.OK, api.ErrLong)
		full := slices.Repeat([]int{1 - n}, 60)
		if _, e := strap.Perm(n, full); e != api.OK {
			t.Errorf("Perm: %d", e)
		}
		if loops, e := strap.Loops(n, full); e != api.OK || loops != n {
			t.Errorf("Loops: %d, %d", loops, e)
		}
		if b, e := strap.Normal(n, full); e != api.OK || b.Power != -60 {
			t.Errorf("Normal: %v, %d", b, e)
		}
		if equal, e := strap.Equal(n, full, full); e != api.OK || !equal {
			t.Errorf("Equal: %t, %d", equal, e)
		}
		if _, e := strap.Burau(n, full[:24]); e != api.OK {
			t.Errorf("Burau: %d", e)
		}
		if _, e := strap.Alexander(n, full[:24]); e != api.OK {
			t.Errorf("Alexander: %d", e)
		}
	}
}

// Both errors of the first word come before those of the second one.
func TestErrorsOfEqual(t *testing.T) {
	good, bad, long := []int{1, 2}, []int{1, 3}, slices.Repeat([]int{1}, 61)
	both := append(slices.Clone(long), 0)
	for _, c := range []struct {
		a, b []int
		want api.Errno
	}{
		{good, bad, api.ErrForm}, {good, long, api.ErrLong}, {good, both, api.ErrForm},
		{bad, good, api.ErrForm}, {bad, bad, api.ErrForm}, {bad, long, api.ErrForm}, {bad, both, api.ErrForm},
		{long, good, api.ErrLong}, {long, bad, api.ErrLong}, {long, long, api.ErrLong}, {long, both, api.ErrLong},
		{both, good, api.ErrForm}, {both, bad, api.ErrForm}, {both, long, api.ErrForm}, {both, both, api.ErrForm},
	} {
		equal, e := strap.Equal(3, c.a, c.b)
		zeroWith(t, "Equal", c.want, e, !equal)
	}
}

func TestErrFormOfWord(t *testing.T) {
	for _, b := range []api.Braid{
		{Factors: [][]int{nil}},
		{Factors: [][]int{{0, 1, 2}}},
		{Factors: [][]int{{2, 1, 0}}},
		{Factors: [][]int{{1, 0}}},
		{Factors: [][]int{{1, 0, 2, 3}}},
		{Factors: [][]int{{1, 0, 3}}},
		{Factors: [][]int{{1, 0, 0}}},
		{Factors: [][]int{{least, most, 0}}},
		{Factors: [][]int{{1, 0, 2}, {0, 2, 1}}},
		{Power: most, Factors: [][]int{{2, 1, 0}}},
		{Power: least, Factors: [][]int{{1, 0, 2}, {0, 2, 1}}},
		{Factors: append(slices.Repeat([][]int{{1, 0, 2}}, 20000), nil)},
	} {
		word, e := strap.Word(3, b)
		zeroWith(t, "Word", api.ErrForm, e, len(word) == 0)
	}
}

func TestErrLongOfWord(t *testing.T) {
	swap := func(times int) [][]int { return slices.Repeat([][]int{{1, 0, 2, 3, 4, 5, 6, 7}}, times) }
	for _, c := range []struct {
		n       int
		b       api.Braid
		letters int // -1 if they are too many
	}{
		{2, api.Braid{Power: 10000}, 10000},
		{2, api.Braid{Power: 10001}, -1},
		{2, api.Braid{Power: -10000}, 10000},
		{2, api.Braid{Power: -10001}, -1},
		{8, api.Braid{Factors: swap(10000)}, 10000},
		{8, api.Braid{Factors: swap(10001)}, -1},
		{8, api.Braid{Power: 357}, 9996},
		{8, api.Braid{Power: 358}, -1},
		{8, api.Braid{Power: -358}, -1},
		{8, api.Braid{Power: 357, Factors: swap(4)}, 10000},
		{8, api.Braid{Power: 357, Factors: swap(5)}, -1},
		{8, api.Braid{Power: -357, Factors: swap(4)}, 10000},
		{8, api.Braid{Power: -357, Factors: swap(5)}, -1},
		{8, api.Braid{Power: 10000}, -1},
		{8, api.Braid{Power: 1 << 62}, -1},
		{8, api.Braid{Power: -1 << 62}, -1},
		{8, api.Braid{Power: 1 << 60, Factors: swap(1)}, -1},
		{2, api.Braid{Power: most}, -1},
		{2, api.Braid{Power: least}, -1},
		{8, api.Braid{Power: most}, -1},
		{8, api.Braid{Power: least}, -1},
		{8, api.Braid{Power: least, Factors: swap(3)}, -1},
	} {
		word, e := strap.Word(c.n, c.b)
		if c.letters < 0 {
			zeroWith(t, "Word", api.ErrLong, e, len(word) == 0)
		} else if e != api.OK || len(word) != c.letters || !slices.Equal(word, wordOf(c.n, c.b)) {
			t.Errorf("Word of n %d, power %d, %d factors: %d letters, %d", c.n, c.b.Power, len(c.b.Factors), len(word), e)
		}
	}
}
