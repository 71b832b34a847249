package nat

import "math/bits"

// karatsubaFrom is how many words the shorter factor needs for Karatsuba's method to be the faster one.
const karatsubaFrom = 80

func multiply(a, b words) words {
	if len(a) < len(b) {
		a, b = b, a
	}
	switch {
	case len(b) < karatsubaFrom:
		return longMultiply(a, b)
	case len(a) >= 2*len(b):
		return multiplyBlocks(a, b)
	}
	return karatsuba(a, b)
}

func longMultiply(a, b words) words {
	z := make(words, len(a)+len(b))
	for i, v := range b {
		z[len(a)+i] = addScaled(z[i:], a, v)
	}
	return trim(z)
}

// multiplyBlocks multiplies blocks of a that are as long as b, because karatsuba wants factors of about one length.
func multiplyBlocks(a, b words) words {
	z := make(words, len(a)+len(b))
	for i := 0; i < len(a); i += len(b) {
		block := trim(a[i:min(i+len(b), len(a))])
		addTo(z[i:], multiply(block, b))
	}
	return trim(z)
}

// karatsuba multiplies a and the shorter b, which is longer than half of a, by three products of halves:
// the products of the two low and of the two high halves are both contained in the product of the sums.
func karatsuba(a, b words) words {
	h := (len(a) + 1) / 2
	a0, a1 := trim(a[:h]), a[h:]
	b0, b1 := trim(b[:h]), b[h:]
	low, high := multiply(a0, b0), multiply(a1, b1)
	middle := multiply(sum(a0, a1), sum(b0, b1))
	subFrom(middle, low)
	subFrom(middle, high)
	z := make(words, len(a)+len(b))
	copy(z, low)
	copy(z[2*h:], high)
	addTo(z[h:], trim(middle))
	return trim(z)
}

// power returns a^n, where n >= 0.
func power(a words, n int) words {
	z := words{1}
	for i := bits.Len(uint(n)) - 1; i >= 0; i-- {
		z = multiply(z, z)
		if n>>i&1 == 1 {
			z = multiply(z, a)
		}
	}
	return z
}

// powerMod returns the remainder of a^e divided by m, where m is not 0.
func powerMod(a, e, m words) words {
	_, z := divide(words{1}, m)
	_, a = divide(a, m)
	for i := e.bits() - 1; i >= 0; i-- {
		_, z = divide(multiply(z, z), m)
		if e.window(i)&1 == 1 {
			_, z = divide(multiply(z, a), m)
		}
	}
	return z
}
