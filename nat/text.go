package nat

import (
	"iter"
	"slices"

	"clavecin/api"
)

// parseStep is how many decimal digits a word has room for.
const parseStep = 19

// Parse reads decimal digits.
func Parse(s string) (api.Nat, api.Errno) {
	if !isNumber(s) {
		return nil, api.ErrForm
	}
	if len(s) > api.MaxDigits {
		return nil, api.ErrLong
	}
	var w words
	for len(s) > 0 {
		n := min(parseStep, len(s))
		var value, unit uint64 = 0, 1
		for i := range n {
			value = 10*value + uint64(s[i]-'0')
			unit *= 10
		}
		s = s[n:]
		if over := scale(w, unit, value); over != 0 {
			w = append(w, over)
		}
	}
	return w.nat(), api.OK
}

func isNumber(s string) bool {
	for i := range len(s) {
		if s[i] < '0' || s[i] > '9' {
			return false
		}
	}
	return s == "0" || s != "" && s[0] != '0'
}

// Text returns decimal digits.
func Text(x api.Nat) (string, api.Errno) {
	n, err := Bits(x)
	if err != api.OK {
		return "", err
	}
	if n == 0 {
		return "0", api.OK
	}
	// A decimal digit has less than 4 bits: longer numbers need not be taken apart.
	if n > 4*api.MaxDigits {
		return "", api.ErrLong
	}
	var text []byte
	for digit := range Digits(x, 10) {
		text = append(text, byte('0'+digit))
	}
	if len(text) > api.MaxDigits {
		return "", api.ErrLong
	}
	slices.Reverse(text)
	return string(text), api.OK
}

// Digits returns the digits in a base, the least significant first.
func Digits(x api.Nat, base uint32) iter.Seq[uint32] {
	if base < 2 || Check(x) != api.OK {
		return func(func(uint32) bool) {}
	}
	w := fromNat(x) // what the caller does to x later must not change the sequence
	return func(yield func(uint32) bool) {
		g := newGiver(uint64(base), len(w), yield)
		g.give(w, len(g.powers)-1, false)
	}
}

// giver gives out digits. It takes a long number apart in the middle, again and again,
// because to divide it by one word after the other would take too long.
type giver struct {
	base   uint64
	count  int     // how many digits a word has room for
	powers []words // base^count, its square, the square of that, ...
	yield  func(uint32) bool
}

// newGiver returns a giver for a number of so many words: it is less than the square of the last power.
func newGiver(base uint64, length int, yield func(uint32) bool) giver {
	unit, count := base, 1
	for unit <= ^uint64(0)/base {
		unit *= base
		count++
	}
	last := words{unit}
	powers := []words{last}
	for 2*len(last)-1 <= length {
		last = multiply(last, last)
		powers = append(powers, last)
	}
	return giver{base, count, powers, yield}
}

// give gives out the digits of w, which is less than the square of powers[level], or a word below level 0:
// as many as that may have if others follow. It tells whether more are wanted.
func (g *giver) give(w words, level int, follow bool) bool {
	if level < 0 {
		return g.giveWord(w, follow)
	}
	q, r := divide(w, g.powers[level])
	if len(q) == 0 && !follow {
		return g.give(r, level-1, false)
	}
	return g.give(r, level-1, true) && g.give(q, level-1, follow)
}

func (g *giver) giveWord(w words, follow bool) bool {
	v := w.window(0)
	for range g.count {
		if v == 0 && !follow {
			break
		}
		if !g.yield(uint32(v % g.base)) {
			return false
		}
		v /= g.base
	}
	return true
}
