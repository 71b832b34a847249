package tone

import (
	"clavecin/api"
	"clavecin/nat"
)

// Freq returns the integer part of base times a.
func Freq(base uint64, a api.Tone) (uint64, api.Errno) {
	if Check(a) != api.OK {
		return 0, api.ErrForm
	}
	over, under := ratio(a)
	whole := quotient(product(power(base, a.Den), over), under)
	root, _ := nat.Root(whole, a.Den)
	freq, err := nat.Uint64(root)
	if err != api.OK || freq >= 1<<63 {
		return 0, api.ErrRange
	}
	return freq, api.OK
}

// ratio returns a^Den as a fraction.
func ratio(a api.Tone) (over, under api.Nat) {
	over = product(power(2, max(a.Two, 0)), product(power(3, max(a.Three, 0)), power(5, max(a.Five, 0))))
	under = product(power(2, max(-a.Two, 0)), product(power(3, max(-a.Three, 0)), power(5, max(-a.Five, 0))))
	return over, under
}
