package tone

import (
	"sort"

	"clavecin/api"
)

// Cmp compares two tones exactly.
func Cmp(a, b api.Tone) (int, api.Errno) {
	if Check(a) != api.OK || Check(b) != api.OK {
		return 0, api.ErrForm
	}
	if a == b {
		return 0, api.OK
	}
	r := newRuler()
	return r.sign(a.Two*b.Den-b.Two*a.Den, a.Three*b.Den-b.Three*a.Den, a.Five*b.Den-b.Five*a.Den), api.OK
}

// Octave splits off whole octaves.
func Octave(a api.Tone) (int, api.Tone, api.Errno) {
	if Check(a) != api.OK {
		return 0, api.Tone{}, api.ErrForm
	}
	octaves := size(a, 1)
	a.Two -= octaves * a.Den
	if !inRange(a) {
		return 0, api.Tone{}, api.ErrRange
	}
	return octaves, a, api.OK
}

// Cents returns a tone's size in cents, rounded down.
func Cents(a api.Tone) (int, api.Errno) {
	if Check(a) != api.OK {
		return 0, api.ErrForm
	}
	return size(a, 1200), api.OK
}

// size returns the size of a valid tone in parts of an octave, rounded down.
func size(a api.Tone, parts int) int {
	r := newRuler()
	bound := 5 * api.MaxExp * parts // 2*3*5 is less than 2^5
	above := sort.Search(2*bound, func(i int) bool {
		return r.sign((i-bound)*a.Den-parts*a.Two, -parts*a.Three, -parts*a.Five) > 0
	})
	return above - bound - 1
}
