package nat

import (
	"cmp"
	"math/bits"

	"clavecin/api"
)

// words is a number in words of 64 bits, the least significant first. Its last word is not 0.
// Half as many words as limbs make a quarter of the work of a product.
type words []uint64

func fromNat(x api.Nat) words {
	w := make(words, (len(x)+1)/2)
	for i, limb := range x {
		w[i/2] |= uint64(limb) << (i % 2 * 32)
	}
	return w
}

func (w words) nat() api.Nat {
	x := make(api.Nat, 0, 2*len(w))
	for _, v := range w {
		x = append(x, uint32(v), uint32(v>>32))
	}
	if n := len(x); n > 0 && x[n-1] == 0 {
		x = x[:n-1]
	}
	return x
}

// trim leaves out the zeros at the end. The result shares w's memory.
func trim(w words) words {
	n := len(w)
	for n > 0 && w[n-1] == 0 {
		n--
	}
	return w[:n]
}

func (w words) bits() int {
	if len(w) == 0 {
		return 0
	}
	return 64*(len(w)-1) + bits.Len64(w[len(w)-1])
}

// window returns the 64 bits of w from bit `from` on.
func (w words) window(from int) uint64 {
	i, s := from/64, from%64
	var v uint64
	if i < len(w) {
		v = w[i] >> s
	}
	if i+1 < len(w) {
		v |= w[i+1] << (64 - s)
	}
	return v
}

// compare compares two numbers, of words or of limbs.
func compare[S ~[]T, T cmp.Ordered](a, b S) int {
	if len(a) != len(b) {
		return cmp.Compare(len(a), len(b))
	}
	for i := len(a) - 1; i >= 0; i-- {
		if a[i] != b[i] {
			return cmp.Compare(a[i], b[i])
		}
	}
	return 0
}

// addTo adds x to z, which is at least as long, and returns the carry.
func addTo(z, x words) uint64 {
	var carry uint64
	for i, v := range x {
		z[i], carry = bits.Add64(z[i], v, carry)
	}
	for i := len(x); carry != 0 && i < len(z); i++ {
		z[i], carry = bits.Add64(z[i], 0, carry)
	}
	return carry
}

// subFrom takes x, which is at most z, from z.
func subFrom(z, x words) {
	var borrow uint64
	for i, v := range x {
		z[i], borrow = bits.Sub64(z[i], v, borrow)
	}
	for i := len(x); borrow != 0 && i < len(z); i++ {
		z[i], borrow = bits.Sub64(z[i], 0, borrow)
	}
}

// scale makes z the words of z*m + add below its length, and returns the word above them.
func scale(z words, m, add uint64) uint64 {
	for i, v := range z {
		hi, lo := bits.Mul64(v, m)
		low, carry := bits.Add64(lo, add, 0)
		z[i], add = low, hi+carry
	}
	return add
}

// addScaled adds x*m to as many words of z as x has, and returns the carry.
func addScaled(z, x words, m uint64) uint64 {
	z = z[:len(x)]
	var over uint64
	for i, v := range x {
		hi, lo := bits.Mul64(v, m)
		low, carry := bits.Add64(lo, z[i], 0)
		hi += carry
		z[i], carry = bits.Add64(low, over, 0)
		over = hi + carry
	}
	return over
}

// subScaled takes x*m from as many words of z as x has, and returns the borrow.
func subScaled(z, x words, m uint64) uint64 {
	z = z[:len(x)]
	var over uint64
	for i, v := range x {
		hi, lo := bits.Mul64(v, m)
		low, borrow := bits.Sub64(z[i], lo, 0)
		hi += borrow
		z[i], borrow = bits.Sub64(low, over, 0)
		over = hi + borrow
	}
	return over
}

func sum(a, b words) words {
	if len(a) < len(b) {
		a, b = b, a
	}
	z := make(words, len(a)+1)
	copy(z, a)
	addTo(z, b)
	return trim(z)
}

// difference returns a - b, where a >= b.
func difference(a, b words) words {
	z := make(words, len(a))
	copy(z, a)
	subFrom(z, b)
	return trim(z)
}

// join returns low + high*2^(64*k), where low has at most k words.
func join(low, high words, k int) words {
	z := make(words, k+len(high))
	copy(z, low)
	copy(z[k:], high)
	return trim(z)
}

func shiftLeft(a words, n int) words {
	z := make(words, len(a)+n/64+1)
	whole, part := n/64, n%64
	for i, v := range a {
		z[whole+i] |= v << part
		z[whole+i+1] = v >> (64 - part)
	}
	return trim(z)
}

func shiftRight(a words, n int) words {
	whole := n / 64
	if whole >= len(a) {
		return nil
	}
	z := make(words, len(a)-whole)
	for i := range z {
		z[i] = a.window(n + 64*i)
	}
	return trim(z)
}
