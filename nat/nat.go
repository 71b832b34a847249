// Package nat computes with natural numbers of any size: see shared/doc/01-nat.md.
package nat

import "clavecin/api"

// maxBits is how many binary digits the longest Nat has.
const maxBits = 32 * api.MaxLimbs

// Check tells whether a Nat is valid.
func Check(x api.Nat) api.Errno {
	n := len(x)
	if n > api.MaxLimbs {
		return api.ErrLong
	}
	if n > 0 && x[n-1] == 0 {
		return api.ErrForm
	}
	return api.OK
}

// checkAll returns the first error of Check.
func checkAll(list ...api.Nat) api.Errno {
	for _, x := range list {
		if err := Check(x); err != api.OK {
			return err
		}
	}
	return api.OK
}

// fit returns a number as a Nat, if it is not too long.
func fit(w words) (api.Nat, api.Errno) {
	if w.bits() > maxBits {
		return nil, api.ErrLong
	}
	return w.nat(), api.OK
}

// Of returns the Nat of a number.
func Of(v uint64) api.Nat {
	return trim(words{v}).nat()
}

// Uint64 returns a Nat's value.
func Uint64(x api.Nat) (uint64, api.Errno) {
	if err := checkAll(x); err != api.OK {
		return 0, err
	}
	if len(x) > 2 {
		return 0, api.ErrRange
	}
	return fromNat(x).window(0), api.OK
}

// Bits returns the number of binary digits.
func Bits(x api.Nat) (int, api.Errno) {
	if err := checkAll(x); err != api.OK {
		return 0, err
	}
	if len(x) == 0 {
		return 0, api.OK
	}
	last := len(x) - 1
	count := 0
	for i := range 32 {
		if x[last]>>i != 0 {
			count = i + 1
		}
	}
	return 32*last + count, api.OK
}

// Cmp compares two numbers.
func Cmp(a, b api.Nat) (int, api.Errno) {
	if err := checkAll(a, b); err != api.OK {
		return 0, err
	}
	return compare(a, b), api.OK
}

// Add returns a sum.
func Add(a, b api.Nat) (api.Nat, api.Errno) {
	if err := checkAll(a, b); err != api.OK {
		return nil, err
	}
	return fit(sum(fromNat(a), fromNat(b)))
}

// Sub returns a difference.
func Sub(a, b api.Nat) (api.Nat, api.Errno) {
	if err := checkAll(a, b); err != api.OK {
		return nil, err
	}
	x, y := fromNat(a), fromNat(b)
	if compare(x, y) < 0 {
		return nil, api.ErrRange
	}
	return difference(x, y).nat(), api.OK
}

// Mul returns a product.
func Mul(a, b api.Nat) (api.Nat, api.Errno) {
	if err := checkAll(a, b); err != api.OK {
		return nil, err
	}
	return product(fromNat(a), fromNat(b))
}

// product returns a product as a Nat, and does not compute one that is clearly too long.
func product(a, b words) (api.Nat, api.Errno) {
	if len(a) > 0 && len(b) > 0 && a.bits()+b.bits()-1 > maxBits {
		return nil, api.ErrLong
	}
	return fit(multiply(a, b))
}

// DivMod returns a quotient and a remainder.
func DivMod(a, b api.Nat) (api.Nat, api.Nat, api.Errno) {
	if err := checkAll(a, b); err != api.OK {
		return nil, nil, err
	}
	if len(b) == 0 {
		return nil, nil, api.ErrZero
	}
	q, r := divide(fromNat(a), fromNat(b))
	return q.nat(), r.nat(), api.OK
}

// Shift multiplies by a power of 2, or divides by one.
func Shift(a api.Nat, n int) (api.Nat, api.Errno) {
	if err := checkAll(a); err != api.OK {
		return nil, err
	}
	w := fromNat(a)
	size := w.bits()
	switch {
	case size == 0 || n <= -size:
		return nil, api.OK
	case n > maxBits-size:
		return nil, api.ErrLong
	case n < 0:
		return shiftRight(w, -n).nat(), api.OK
	}
	return shiftLeft(w, n).nat(), api.OK
}

// Pow returns a power.
func Pow(a api.Nat, n int) (api.Nat, api.Errno) {
	if err := checkAll(a); err != api.OK {
		return nil, err
	}
	if n < 0 {
		return nil, api.ErrArg
	}
	w := fromNat(a)
	// a is at least 2^(size-1): if the power of that is too long there is no need to compute more.
	if size := w.bits(); size > 1 && n > (maxBits-1)/(size-1) {
		return nil, api.ErrLong
	}
	return fit(power(w, n))
}

// PowMod returns a power's remainder.
func PowMod(a, e, m api.Nat) (api.Nat, api.Errno) {
	if err := checkAll(a, e, m); err != api.OK {
		return nil, err
	}
	if len(m) == 0 {
		return nil, api.ErrZero
	}
	return powerMod(fromNat(a), fromNat(e), fromNat(m)).nat(), api.OK
}

// Root returns the integer part of a root.
func Root(a api.Nat, n int) (api.Nat, api.Errno) {
	if err := checkAll(a); err != api.OK {
		return nil, err
	}
	if n < 1 {
		return nil, api.ErrArg
	}
	if len(a) == 0 {
		return nil, api.OK
	}
	return root(fromNat(a), n).nat(), api.OK
}

// Gcd returns the greatest common divisor.
func Gcd(a, b api.Nat) (api.Nat, api.Errno) {
	if err := checkAll(a, b); err != api.OK {
		return nil, err
	}
	return gcd(fromNat(a), fromNat(b)).nat(), api.OK
}

// Lcm returns the least common multiple.
func Lcm(a, b api.Nat) (api.Nat, api.Errno) {
	if err := checkAll(a, b); err != api.OK {
		return nil, err
	}
	if len(a) == 0 || len(b) == 0 {
		return nil, api.OK
	}
	x, y := fromNat(a), fromNat(b)
	q, _ := divide(x, gcd(x, y))
	return product(q, y)
}

// Fits compares a^n with b^m.
func Fits(a api.Nat, n int, b api.Nat, m int) (int, api.Errno) {
	if err := checkAll(a, b); err != api.OK {
		return 0, err
	}
	if n < 0 || m < 0 {
		return 0, api.ErrArg
	}
	x, err := Pow(a, n)
	if err != api.OK {
		return 0, err
	}
	y, err := Pow(b, m)
	if err != api.OK {
		return 0, err
	}
	return Cmp(x, y)
}
