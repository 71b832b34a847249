package temper

import (
	"slices"

	"clavecin/api"
	"clavecin/tone"
)

// Tones returns the tones of a temperament.
func Tones(steps []int, units int) ([]api.Tone, api.Errno) {
	if !isTemperament(steps, units) {
		return nil, api.ErrArg
	}
	list := []api.Tone{{Den: 1}}
	for i, step := range steps[:len(steps)-1] {
		up, err := tone.Mul(list[i], fifth(step, units))
		if err != api.OK {
			return nil, err
		}
		_, next, err := tone.Octave(up)
		if err != api.OK {
			return nil, err
		}
		list = append(list, next)
	}
	return list, api.OK
}

func isTemperament(steps []int, units int) bool {
	return within(len(steps), 1, api.MaxNotes) && allWithin(steps, -12, 12) && within(units, 1, api.MaxDen)
}

// fifth returns 3/2 divided by the unit to the power step, which is always a valid tone.
func fifth(step, units int) api.Tone {
	comma, _ := tone.Comma(api.CommaPythagorean)
	narrower, _ := tone.Power(comma, step, units)
	f, _ := tone.Div(api.Tone{Two: -1, Three: 1, Den: 1}, narrower)
	return f
}

// Closes tells whether all fifths together are whole octaves.
func Closes(steps []int, units int) (bool, api.Errno) {
	if !isTemperament(steps, units) {
		return false, api.ErrArg
	}
	// The product may be no valid tone: its exponents are computed here, in parts of 1/units.
	comma, _ := tone.Comma(api.CommaPythagorean)
	two := -len(steps)*units - comma.Two*sum(steps)
	three := len(steps)*units - comma.Three*sum(steps)
	return three == 0 && two%units == 0, api.OK
}

// Scale returns the frequencies of all tones, rising.
func Scale(base uint64, steps []int, units int) ([]uint64, api.Errno) {
	tones, err := tonesOn(base, steps, units)
	if err != api.OK {
		return nil, err
	}
	list := make([]uint64, len(tones))
	for i, t := range tones {
		list[i], _ = tone.Freq(base, t)
	}
	slices.Sort(list)
	return list, api.OK
}

// tonesOn returns the tones of a temperament that is to begin at the frequency base, which is so low
// that no frequency of a tone or of a fifth above it is out of range.
func tonesOn(base uint64, steps []int, units int) ([]api.Tone, api.Errno) {
	tones, err := Tones(steps, units)
	if err != api.OK {
		return nil, err
	}
	if base == 0 || base >= 1<<60 {
		return nil, api.ErrArg
	}
	return tones, api.OK
}

// Beats returns how fast each fifth beats.
func Beats(base uint64, steps []int, units int) ([]uint64, api.Errno) {
	tones, err := tonesOn(base, steps, units)
	if err != api.OK {
		return nil, err
	}
	list := make([]uint64, len(tones))
	for i, t := range tones {
		up, err := tone.Mul(t, fifth(steps[i], units))
		if err != api.OK {
			return nil, err
		}
		list[i] = beat(base, t, up)
	}
	return list, api.OK
}

// beat returns the difference between the third partial of the lower tone and the second one of the upper tone.
func beat(base uint64, lower, upper api.Tone) uint64 {
	f, _ := tone.Freq(base, lower)
	g, _ := tone.Freq(base, upper)
	return max(3*f, 2*g) - min(3*f, 2*g)
}
