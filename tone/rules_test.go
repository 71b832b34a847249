package tone_test

import (
	"math"
	"slices"
	"testing"

	"clavecin/api"
	"clavecin/tone"
)

// call is a function of one or two tones; it tells whether the results beside the error are zero.
type call struct {
	name  string
	tones int
	do    func(a, b api.Tone) (zero bool, err api.Errno)
}

func isZero(x api.Tone, err api.Errno) (bool, api.Errno) { return x == api.Tone{}, err }

func isNone(n int, err api.Errno) (bool, api.Errno) { return n == 0, err }

// calls are all functions that take tones; other arguments are out of range, so that the tones' error must come first.
func calls() []call {
	return []call{
		{"Check", 1, func(a, b api.Tone) (bool, api.Errno) { return true, tone.Check(a) }},
		{"Mul", 2, func(a, b api.Tone) (bool, api.Errno) { return isZero(tone.Mul(a, b)) }},
		{"Div", 2, func(a, b api.Tone) (bool, api.Errno) { return isZero(tone.Div(a, b)) }},
		{"Power", 1, func(a, b api.Tone) (bool, api.Errno) { return isZero(tone.Power(a, 1, 0)) }},
		{"Power too great", 1, func(a, b api.Tone) (bool, api.Errno) { return isZero(tone.Power(a, math.MaxInt, 1)) }},
		{"Power 0", 1, func(a, b api.Tone) (bool, api.Errno) { return isZero(tone.Power(a, 0, 1)) }},
		{"Cmp", 2, func(a, b api.Tone) (bool, api.Errno) { return isNone(tone.Cmp(a, b)) }},
		{"Octave", 1, func(a, b api.Tone) (bool, api.Errno) {
			k, x, err := tone.Octave(a)
			return k == 0 && x == api.Tone{}, err
		}},
		{"Cents", 1, func(a, b api.Tone) (bool, api.Errno) { return isNone(tone.Cents(a)) }},
		{"Freq", 1, func(a, b api.Tone) (bool, api.Errno) {
			f, err := tone.Freq(math.MaxUint64, a)
			return f == 0, err
		}},
		{"Freq of 0", 1, func(a, b api.Tone) (bool, api.Errno) {
			f, err := tone.Freq(0, a)
			return f == 0, err
		}},
		{"Divisions", 1, func(a, b api.Tone) (bool, api.Errno) {
			list, err := tone.Divisions(a, 0)
			return len(list) == 0, err
		}},
		{"Farey", 1, func(a, b api.Tone) (bool, api.Errno) {
			low, high, err := tone.Farey(a, 0)
			return low == api.Frac{} && high == api.Frac{}, err
		}},
		{"Text", 1, func(a, b api.Tone) (bool, api.Errno) {
			s, err := tone.Text(a)
			return s == "", err
		}},
	}
}

// malformed returns tones that are not valid: such with fields out of range, and such that are not reduced.
func malformed() []api.Tone {
	list := []api.Tone{{}, of(1, 1, 1, 0), of(1, 0, 0, 25), of(-1, 1, 0, -1), of(0, 0, 0, 2), of(2, 2, 0, 2), of(0, 3, 0, 3), of(0, 0, 24, 24), of(-6, 4, 2, 8)}
	for _, n := range []int{961, -961, math.MaxInt, math.MinInt, 1 << 32} {
		list = append(list, of(n, 0, 0, 1), of(0, n, 0, 1), of(0, 0, n, 1), of(1, 1, 1, n), of(n, n, n, n))
	}
	return list
}

// TestMalformed tests that malformed tones are found first, in any place (R1, R2), and that nothing is returned beside (R3).
func TestMalformed(t *testing.T) {
	good := []api.Tone{unison, fifth, of(960, 960, 960, 1)}
	for _, c := range calls() {
		for _, bad := range malformed() {
			for _, other := range append(malformed(), good...) {
				if zero, err := c.do(bad, other); err != api.ErrForm || !zero {
					t.Errorf("%s of %v and %v: error %d, want %d and nothing else", c.name, bad, other, err, api.ErrForm)
				}
				if c.tones < 2 {
					break
				}
				if zero, err := c.do(other, bad); err != api.ErrForm || !zero {
					t.Errorf("%s of %v and %v: error %d, want %d and nothing else", c.name, other, bad, err, api.ErrForm)
				}
			}
		}
		for _, a := range good {
			for _, b := range good {
				if zero, err := c.do(a, b); err == api.ErrForm || err != api.OK && !zero {
					t.Errorf("%s of %v and %v: error %d", c.name, a, b, err)
				}
			}
		}
	}
}

// TestAgain tests that results are the same again, and new memory (R5, R6).
func TestAgain(t *testing.T) {
	for _, most := range []int{1, 53, 1024} {
		first, _ := tone.Divisions(fifth, most)
		kept := slices.Clone(first)
		first = first[:cap(first)]
		clear(first)
		second, err := tone.Divisions(fifth, most)
		if err != api.OK || !slices.Equal(second, kept) {
			t.Errorf("Divisions of a fifth, again: %v, want %v", second, kept)
		}
	}
	r := newRand()
	list := sample(r)
	for i := range list {
		a, b := list[i], list[r.Intn(len(list))]
		c, _ := tone.Cmp(a, b)
		tone.Cents(list[r.Intn(len(list))])
		tone.Cmp(near()[0], unison)
		if again, _ := tone.Cmp(a, b); again != c {
			t.Errorf("Cmp(%v, %v): %d and then %d", a, b, c, again)
		}
	}
}
