package nat

import "math/bits"

// root returns the integer part of the nth root of a, where a > 0 and n > 0.
// The root of a's high bits gives the high bits of a's root.
func root(a words, n int) words {
	size := a.bits()
	if n >= size {
		return words{1}
	}
	if n == 1 {
		return a
	}
	digits := (size-1)/n + 1
	var r words
	if low := (digits - bits.Len(uint(n))) / 2; low > 0 {
		above := sum(root(shiftRight(a, n*low), n), words{1})
		r = newton(a, n, shiftLeft(above, low))
	} else {
		r = sum(shiftLeft(root(shiftRight(a, n), n), 1), words{1})
	}
	if compare(power(r, n), a) > 0 {
		r = difference(r, words{1})
	}
	return r
}

// newton does a step of Newton's method from an x above the root. The result is not below the integer part of the root.
// Because x is wrong by at most 2^low, where n*2^(2*low) is at most 2^digits, it is at most 1 above it.
func newton(a words, n int, x words) words {
	q, _ := divide(a, power(x, n-1))
	z := sum(multiply(x, words{uint64(n - 1)}), q)
	z, _ = divideWord(z, uint64(n))
	return z
}
