package strap

import "gamp/api"

// entry is an entry of a matrix: a polynomial that can be added and multiplied.
type entry struct {
	api.Laurent
}

// entryOf returns the polynomial with these coefficients, from that of t^low on.
func entryOf(low int, coef ...int) entry {
	for len(coef) > 0 && coef[0] == 0 {
		low++
		coef = coef[1:]
	}
	for len(coef) > 0 && coef[len(coef)-1] == 0 {
		coef = coef[:len(coef)-1]
	}
	if len(coef) == 0 {
		return entry{}
	}
	return entry{api.Laurent{Low: low, Coef: coef}}
}

func (e entry) isZero() bool {
	return len(e.Coef) == 0
}

func (e entry) plus(f entry) entry {
	low := min(e.Low, f.Low)
	coef := make([]int, max(e.Low+len(e.Coef), f.Low+len(f.Coef))-low)
	for i, c := range e.Coef {
		coef[e.Low-low+i] += c
	}
	for i, c := range f.Coef {
		coef[f.Low-low+i] += c
	}
	return entryOf(low, coef...)
}

func (e entry) times(f entry) entry {
	if e.isZero() || f.isZero() {
		return entry{}
	}
	coef := make([]int, len(e.Coef)+len(f.Coef)-1)
	for i, c := range e.Coef {
		for j, d := range f.Coef {
			coef[i+j] += c * d
		}
	}
	return entryOf(e.Low+f.Low, coef...)
}

func (e entry) negative() entry {
	return e.times(entryOf(0, -1))
}

// normalized returns the polynomial with Low 0, and with a first coefficient above 0.
func (e entry) normalized() entry {
	if !e.isZero() && e.Coef[0] < 0 {
		e = e.negative()
	}
	e.Low = 0
	return e
}
