package nat

import (
	"math/bits"
	"slices"
)

// steps says what some steps of Euclid's algorithm make of two numbers a and b: p*a + q*b and s*a + t*b.
// Of p and q, and of s and t, one is positive and the other one is not.
type steps struct {
	p, q, s, t int64
}

func gcd(a, b words) words {
	if compare(a, b) < 0 {
		a, b = b, a
	}
	a, b = slices.Clone(a), slices.Clone(b)
	for len(b) > 0 {
		m := leadingSteps(a, b)
		if m.q != 0 {
			a, b = m.apply(a, b)
			continue
		}
		_, r := divide(a, b)
		a, b = b, r
	}
	return a
}

// leadingSteps finds the steps that the first 62 bits of a are enough for: as long as the quotient is the same,
// whatever bits come after them (Knuth, 4.5.2, Algorithm L).
func leadingSteps(a, b words) steps {
	from := max(a.bits()-62, 0)
	x, y := int64(a.window(from)), int64(b.window(from))
	m := steps{1, 0, 0, 1}
	for y+m.s != 0 && y+m.t != 0 {
		d := (x + m.p) / (y + m.s)
		if d != (x+m.q)/(y+m.t) {
			break
		}
		m = steps{m.s, m.t, m.p - d*m.s, m.q - d*m.t}
		x, y = y, x-d*y
	}
	return m
}

// apply does the steps in the memory of a and b: no step makes a number greater.
func (m steps) apply(a, b words) (words, words) {
	for len(b) < len(a) {
		b = append(b, 0)
	}
	x, y := a, b
	if m.q > 0 {
		x, y = b, a
		m = steps{m.q, m.p, m.t, m.s}
	}
	p, q, s, t := uint64(m.p), uint64(-m.q), uint64(-m.s), uint64(m.t)
	var overA, overB uint64
	for i, v := range x {
		w := y[i]
		a[i], overA = mulSub(p, v, q, w, overA)
		b[i], overB = mulSub(t, w, s, v, overB)
	}
	return trim(a), trim(b)
}

// mulSub returns the two words of p*v - q*w + over, where the high word and over have a sign.
func mulSub(p, v, q, w, over uint64) (lo, hi uint64) {
	hi, lo = bits.Mul64(p, v)
	hi2, lo2 := bits.Mul64(q, w)
	lo, borrow := bits.Sub64(lo, lo2, 0)
	hi, _ = bits.Sub64(hi, hi2, borrow)
	lo, carry := bits.Add64(lo, over, 0)
	return lo, hi + carry + uint64(int64(over)>>63)
}
