package tone

import (
	"sort"

	"clavecin/api"
)

// The greatest denominators that may be asked for.
const (
	mostDivisions = 1024
	mostFarey     = 4096
)

// along returns the fraction that is n steps from `from`: numerators and denominators are added.
func along(from, step api.Frac, n int) api.Frac {
	return api.Frac{Num: from.Num + n*step.Num, Den: from.Den + n*step.Den}
}

// run returns how many steps can be taken from `from`, at most `most` of them, before one gets past something.
func run(from, step api.Frac, most int, past func(api.Frac) bool) int {
	return sort.Search(most, func(i int) bool { return past(along(from, step, i+1)) })
}

// Divisions returns the convergents of the logarithm of a.
func Divisions(a api.Tone, most int) ([]api.Frac, api.Errno) {
	if Check(a) != api.OK {
		return nil, api.ErrForm
	}
	if most < 1 || most > mostDivisions {
		return nil, api.ErrArg
	}
	r := newRuler()
	if r.sign(a.Two, a.Three, a.Five) <= 0 {
		return nil, api.ErrRange
	}
	return convergents(size(a, 1), most, func(f api.Frac) int {
		return r.sign(f.Num*a.Den-f.Den*a.Two, -f.Den*a.Three, -f.Den*a.Five)
	}), api.OK
}

// convergents returns those of a number with the integer part whole, with which side compares fractions.
// The next one is reached from the one before the last by steps of the last one, as many as do not get past the number.
// 1/0, which is above all numbers, is the one before the first.
func convergents(whole, most int, side func(api.Frac) int) []api.Frac {
	before, last := api.Frac{Num: 1, Den: 0}, api.Frac{Num: whole, Den: 1}
	list := []api.Frac{last}
	for {
		far := side(last)
		if far == 0 {
			return list
		}
		room := (most - before.Den) / last.Den
		steps := run(before, last, room+1, func(f api.Frac) bool { return side(f) == far })
		if steps > room {
			return list
		}
		before, last = last, along(before, last, steps)
		list = append(list, last)
	}
}

// Farey returns the neighbours of a among fractions with small denominators.
func Farey(a api.Tone, most int) (api.Frac, api.Frac, api.Errno) {
	if Check(a) != api.OK {
		return api.Frac{}, api.Frac{}, api.ErrForm
	}
	if most < 1 || most > mostFarey {
		return api.Frac{}, api.Frac{}, api.ErrArg
	}
	if size(a, 1) != 0 {
		return api.Frac{}, api.Frac{}, api.ErrRange
	}
	over, under := ratio(a)
	low, high := neighbours(most, func(f api.Frac) int {
		return compare(product(power(uint64(f.Num), a.Den), under), product(power(uint64(f.Den), a.Den), over))
	})
	return low, high, api.OK
}

// neighbours returns those of a number from 1 to below 2, with which side compares fractions. In turns, low and high
// take steps of the other one, as many as do not get past the number: all fractions between the two have at least
// the sum of their denominators.
func neighbours(most int, side func(api.Frac) int) (low, high api.Frac) {
	low, high = api.Frac{Num: 1, Den: 1}, api.Frac{Num: 2, Den: 1}
	for {
		switch {
		case side(low) == 0:
			return low, low
		case side(high) == 0:
			return high, high
		case low.Den+high.Den > most:
			return low, high
		}
		steps := run(low, high, (most-low.Den)/high.Den, func(f api.Frac) bool { return side(f) > 0 })
		low = along(low, high, steps)
		steps = run(high, low, (most-high.Den)/low.Den, func(f api.Frac) bool { return side(f) < 0 })
		high = along(high, low, steps)
	}
}
