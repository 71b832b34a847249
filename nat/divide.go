package nat

import (
	"math"
	"math/bits"
)

// halvesFrom is how many words quotient and divisor need for a division by halves to be the faster one.
const halvesFrom = 200

// divide returns the quotient and the remainder of a and b, where b is not 0. The remainder may share a's memory.
func divide(a, b words) (q, r words) {
	if compare(a, b) < 0 {
		return nil, a
	}
	if len(b) == 1 {
		q, v := divideWord(a, b[0])
		return q, trim(words{v})
	}
	s := bits.LeadingZeros64(b[len(b)-1])
	q, r = divideNormal(shiftLeft(a, s), shiftLeft(b, s))
	return q, shiftRight(r, s)
}

func divideWord(a words, d uint64) (q words, r uint64) {
	q = make(words, len(a))
	for i := len(a) - 1; i >= 0; i-- {
		q[i], r = bits.Div64(r, a[i], d)
	}
	return trim(q), r
}

// divideNormal divides by a b of two words or more whose highest bit is set, so that the first words estimate a quotient well.
func divideNormal(a, b words) (q, r words) {
	more := len(a) - len(b)
	switch {
	case compare(a, b) < 0:
		return nil, a
	case len(b) < halvesFrom || more < halvesFrom:
		return longDivide(a, b)
	case more > len(b):
		return divideBlocks(a, b)
	case more < len(b):
		return divideShort(a, b, len(b)-more)
	}
	return divideHalves(a, b, more/2)
}

// longDivide is the method of pen and paper (Knuth, 4.3.1, Algorithm D).
func longDivide(a, b words) (q, r words) {
	n := len(b)
	r = make(words, len(a)+1)
	copy(r, a)
	q = make(words, len(a)-n+1)
	for j := len(a) - n; j >= 0; j-- {
		top := r[j+n]
		d := estimate(top, r[j+n-1], r[j+n-2], b[n-1], b[n-2])
		borrow := subScaled(r[j:], b, d)
		if borrow > top {
			d--
			addTo(r[j:j+n], b)
		}
		r[j+n] = 0
		q[j] = d
	}
	return trim(q), trim(r[:n])
}

// estimate returns a digit of a quotient by the first words of both numbers: the right digit, or 1 more.
func estimate(a2, a1, a0, b1, b0 uint64) uint64 {
	if a2 >= b1 {
		return math.MaxUint64
	}
	d, r := bits.Div64(a2, a1, b1)
	for {
		hi, lo := bits.Mul64(d, b0)
		if hi < r || hi == r && lo <= a0 {
			return d
		}
		d--
		r += b1
		if r < b1 {
			return d
		}
	}
}

// divideBlocks is long division with digits that are as long as b.
func divideBlocks(a, b words) (q, r words) {
	n := len(b)
	q = make(words, len(a)+n)
	for i := (len(a) - 1) / n * n; i >= 0; i -= n {
		var d words
		d, r = divideNormal(join(a[i:min(i+n, len(a))], r, n), b)
		copy(q[i:], d)
	}
	return trim(q), r
}

// divideHalves finds the high part of the quotient, and then its k low words.
func divideHalves(a, b words, k int) (q, r words) {
	high, r := divideShort(a[k:], b, k)
	low, r := divideShort(join(a[:k], r, k), b, k)
	return join(low, high, k), r
}

// divideShort divides without the k low words of both numbers, and then corrects the quotient, which is hardly too great.
func divideShort(a, b words, k int) (q, r words) {
	if compare(a, b) < 0 {
		return nil, a
	}
	q, r = divideNormal(a[k:], b[k:])
	r = join(a[:k], r, k)
	missed := multiply(q, trim(b[:k]))
	for compare(r, missed) < 0 {
		q = difference(q, words{1})
		r = sum(r, b)
	}
	return q, difference(r, missed)
}
