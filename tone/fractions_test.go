package tone_test

import (
	"math"
	"math/big"
	"slices"
	"testing"

	"clavecin/api"
	"clavecin/tone"
)

// fracs makes fractions of numerators and denominators.
func fracs(list ...int) []api.Frac {
	var out []api.Frac
	for i := 0; i < len(list); i += 2 {
		out = append(out, api.Frac{Num: list[i], Den: list[i+1]})
	}
	return out
}

func TestDivisions(t *testing.T) {
	ofFifth := fracs(0, 1, 1, 1, 1, 2, 3, 5, 7, 12, 24, 41, 31, 53, 179, 306, 389, 665)
	for _, c := range []struct {
		name string
		a    api.Tone
		most int
		want []api.Frac
	}{
		{"a fifth, 1", fifth, 1, ofFifth[:2]},
		{"a fifth, 2", fifth, 2, ofFifth[:3]},
		{"a fifth, 4", fifth, 4, ofFifth[:3]},
		{"a fifth, 5", fifth, 5, ofFifth[:4]},
		{"a fifth, 11", fifth, 11, ofFifth[:4]},
		{"a fifth, 12", fifth, 12, ofFifth[:5]},
		{"a fifth, 40", fifth, 40, ofFifth[:5]},
		{"a fifth, 52", fifth, 52, ofFifth[:6]},
		{"a fifth, 53", fifth, 53, ofFifth[:7]},
		{"a fifth, 60", fifth, 60, ofFifth[:7]},
		{"a fifth, 1024", fifth, 1024, ofFifth},
		{"a third", of(-2, 0, 1, 1), 100, fracs(0, 1, 1, 3, 9, 28, 19, 59)},
		{"a twelfth", of(0, 1, 0, 1), 60, fracs(1, 1, 2, 1, 3, 2, 8, 5, 19, 12, 65, 41, 84, 53)},
		{"an octave", octave, 1024, fracs(1, 1)},
		{"960 octaves", of(960, 0, 0, 1), 1, fracs(960, 1)},
		{"half an octave", of(1, 0, 0, 2), 2, fracs(0, 1, 1, 2)},
		{"half an octave, 1", of(1, 0, 0, 2), 1, fracs(0, 1)},
		{"seven twelfths", of(7, 0, 0, 12), 1024, fracs(0, 1, 1, 1, 1, 2, 3, 5, 7, 12)},
		{"seven twelfths, 12", of(7, 0, 0, 12), 12, fracs(0, 1, 1, 1, 1, 2, 3, 5, 7, 12)},
		{"seven twelfths, 11", of(7, 0, 0, 12), 11, fracs(0, 1, 1, 1, 1, 2, 3, 5)},
		{"a 24th", of(1, 0, 0, 24), 24, fracs(0, 1, 1, 24)},
		{"a 24th, 23", of(1, 0, 0, 24), 23, fracs(0, 1)},
		{"23 24ths", of(23, 0, 0, 24), 24, fracs(0, 1, 1, 1, 23, 24)},
		{"40 octaves and a 24th less", of(959, 0, 0, 24), 1024, fracs(39, 1, 40, 1, 959, 24)},
		{"hardly more than 1", of(-573, 237, 85, 1), 1024, fracs(0, 1)},
		{"hardly more than 2", of(-572, 237, 85, 1), 1024, fracs(1, 1)},
		{"hardly less than 2", of(574, -237, -85, 1), 1024, fracs(0, 1, 1, 1)},
	} {
		got, err := tone.Divisions(c.a, c.most)
		if err != api.OK || !slices.Equal(got, c.want) {
			t.Errorf("%s: %v, error %d, want %v", c.name, got, err, c.want)
		}
	}
}

func TestDivisionsErrors(t *testing.T) {
	for _, c := range []struct {
		name string
		a    api.Tone
		most int
		want api.Errno
	}{
		{"most 0", fifth, 0, api.ErrArg},
		{"most below 0", fifth, math.MinInt, api.ErrArg},
		{"most 1025", fifth, 1025, api.ErrArg},
		{"the greatest most", fifth, math.MaxInt, api.ErrArg},
		{"1", unison, 12, api.ErrRange},
		{"below 1", of(1, -1, 0, 1), 12, api.ErrRange},
		{"hardly below 1", of(573, -237, -85, 1), 12, api.ErrRange},
		{"the least tone", of(-960, -960, -960, 1), 12, api.ErrRange},
		{"below 1 and most 0", of(1, -1, 0, 1), 0, api.ErrArg},
		{"malformed and most 0", of(2, 2, 0, 2), 0, api.ErrForm},
		{"malformed and below 1", of(-2, 0, 0, 2), 12, api.ErrForm},
	} {
		got, err := tone.Divisions(c.a, c.most)
		if len(got) != 0 || err != c.want {
			t.Errorf("%s: %v, error %d, want %d", c.name, got, err, c.want)
		}
	}
}

// convergents finds them by going on from one to the next in single steps.
func convergents(a api.Tone, most int) []api.Frac {
	before, last := api.Frac{Num: 1, Den: 0}, api.Frac{Num: parts(a, 1), Den: 1}
	list := []api.Frac{last}
	for far := logSide(last, a); far != 0; far = logSide(last, a) {
		next := before
		for next.Den <= most {
			more := api.Frac{Num: next.Num + last.Num, Den: next.Den + last.Den}
			if logSide(more, a) == far {
				break
			}
			next = more
		}
		if next.Den > most {
			break
		}
		before, last = last, next
		list = append(list, last)
	}
	return list
}

// TestBestDivisions tests T5.
func TestBestDivisions(t *testing.T) {
	r := newRand()
	list := []api.Tone{fifth, of(0, 0, 1, 4), of(959, 0, 0, 24), of(-573, 237, 85, 24)}
	for len(list) < 200 {
		if a := random(r, 30, 24); order(a, unison) > 0 {
			list = append(list, a)
		}
	}
	for _, a := range list {
		most := []int{1, 2, 7, 30, 100}[r.Intn(5)]
		got, err := tone.Divisions(a, most)
		if want := convergents(a, most); err != api.OK || !slices.Equal(got, want) {
			t.Errorf("Divisions(%v, %d): %v, error %d, want %v", a, most, got, err, want)
			continue
		}
		for i, f := range got {
			if f.Den > most {
				t.Errorf("Divisions(%v, %d): %v", a, most, f)
			}
			if i > 0 {
				testNeighbours(t, a, got[i-1], f)
			}
			if f.Den > 1 {
				testBest(t, a, f)
			}
		}
	}
}

// testNeighbours tests that two convergents differ by as little as they can, and that the logarithm lies between them.
func testNeighbours(t *testing.T, a api.Tone, f, g api.Frac) {
	t.Helper()
	d := f.Num*g.Den - g.Num*f.Den
	if d != 1 && d != -1 {
		t.Errorf("%v: %v and %v are no neighbours", a, f, g)
	}
	if logSide(f, a) != d || logSide(g, a) == d {
		t.Errorf("%v does not lie between %v and %v", a, f, g)
	}
}

// testBest tests that every other fraction with such a denominator is farther from the logarithm:
// of each denominator the nearest ones are next to f.
func testBest(t *testing.T, a api.Tone, f api.Frac) {
	t.Helper()
	log := logOf(a)
	distance := func(num, den int) *big.Rat {
		d := big.NewRat(int64(num), int64(den))
		return d.Abs(d.Sub(d, log))
	}
	nearest := distance(f.Num, f.Den)
	for den := 1; den <= f.Den; den++ {
		below := f.Num * den / f.Den
		for num := below - 1; num <= below+2; num++ {
			if num*f.Den != f.Num*den && distance(num, den).Cmp(nearest) <= 0 {
				t.Errorf("%v: %d/%d is not farther than %v", a, num, den, f)
			}
		}
	}
}

// TestGreatDivisions tests tones the powers of which are too great to be multiplied out.
func TestGreatDivisions(t *testing.T) {
	r := newRand()
	for range 100 {
		a := random(r, 960, 24)
		if cmpTones(t, a, unison) < 0 {
			a = of(-a.Two, -a.Three, -a.Five, a.Den)
		}
		got, err := tone.Divisions(a, 1024)
		want := logConvergents(a, 1024)
		if err != api.OK || !slices.Equal(got, want) {
			t.Errorf("Divisions(%v, 1024): %v, error %d, want %v", a, got, err, want)
		}
	}
}

// logConvergents takes the logarithm apart.
func logConvergents(a api.Tone, most int) []api.Frac {
	log := logOf(a)
	before, last := api.Frac{Num: 0, Den: 1}, api.Frac{Num: 1, Den: 0}
	var list []api.Frac
	for {
		c := new(big.Int).Div(log.Num(), log.Denom())
		if !c.IsInt64() || c.Int64() > int64(most) && len(list) > 0 {
			return list
		}
		n := int(c.Int64())
		before, last = last, api.Frac{Num: before.Num + n*last.Num, Den: before.Den + n*last.Den}
		if last.Den > most {
			return list
		}
		list = append(list, last)
		log.Sub(log, new(big.Rat).SetInt(c))
		if log.Sign() == 0 {
			return list
		}
		log.Inv(log)
	}
}

var log3, log5 = log2(3), log2(5)

// logOf returns the logarithm of a tone, with an error of less than 2^-380.
func logOf(a api.Tone) *big.Rat {
	log := new(big.Rat).SetInt64(int64(a.Two))
	log.Add(log, new(big.Rat).Mul(log3, new(big.Rat).SetInt64(int64(a.Three))))
	log.Add(log, new(big.Rat).Mul(log5, new(big.Rat).SetInt64(int64(a.Five))))
	return log.Quo(log, new(big.Rat).SetInt64(int64(a.Den)))
}

// log2 returns the first 400 bits of a logarithm behind the point: each one tells whether the square is 2 or more.
func log2(n float64) *big.Rat {
	x := new(big.Float).SetPrec(1000).SetFloat64(n)
	two := big.NewFloat(2)
	bits := new(big.Int)
	for x.Cmp(two) >= 0 {
		x.Quo(x, two)
		bits.Add(bits, big.NewInt(1))
	}
	for range 400 {
		x.Mul(x, x)
		bits.Lsh(bits, 1)
		if x.Cmp(two) >= 0 {
			x.Quo(x, two)
			bits.Add(bits, big.NewInt(1))
		}
	}
	return new(big.Rat).SetFrac(bits, new(big.Int).Lsh(big.NewInt(1), 400))
}

func TestFarey(t *testing.T) {
	frac := func(num, den int) api.Frac { return api.Frac{Num: num, Den: den} }
	for _, c := range []struct {
		name      string
		a         api.Tone
		most      int
		low, high api.Frac
	}{
		{"the root of 2, 5", of(1, 0, 0, 2), 5, frac(7, 5), frac(3, 2)},
		{"the root of 2, 1", of(1, 0, 0, 2), 1, frac(1, 1), frac(2, 1)},
		{"the root of 2, 12", of(1, 0, 0, 2), 12, frac(7, 5), frac(17, 12)},
		{"the root of 2, 11", of(1, 0, 0, 2), 11, frac(7, 5), frac(10, 7)},
		{"1", unison, 1, frac(1, 1), frac(1, 1)},
		{"1, 4096", unison, 4096, frac(1, 1), frac(1, 1)},
		{"a fifth, 1", fifth, 1, frac(1, 1), frac(2, 1)},
		{"a fifth, 2", fifth, 2, frac(3, 2), frac(3, 2)},
		{"a fifth, 4096", fifth, 4096, frac(3, 2), frac(3, 2)},
		{"a fourth, 2", of(2, -1, 0, 1), 2, frac(1, 1), frac(3, 2)},
		{"a fourth, 3", of(2, -1, 0, 1), 3, frac(4, 3), frac(4, 3)},
		{"81/80, 79", of(-4, 4, -1, 1), 79, frac(1, 1), frac(80, 79)},
		{"81/80, 80", of(-4, 4, -1, 1), 80, frac(81, 80), frac(81, 80)},
		{"a fourth of Pythagoras, 2187/2048", of(-11, 7, 0, 1), 2048, frac(2187, 2048), frac(2187, 2048)},
		{"a seventh, 15/8", of(-3, 1, 1, 1), 7, frac(13, 7), frac(2, 1)},
		{"a seventh, 15/8, 8", of(-3, 1, 1, 1), 8, frac(15, 8), frac(15, 8)},
		{"hardly above 1", of(-573, 237, 85, 1), 4096, frac(1, 1), frac(4097, 4096)},
		{"hardly below 2", of(574, -237, -85, 1), 4096, frac(8191, 4096), frac(2, 1)},
		{"hardly below 2, 1", of(574, -237, -85, 1), 1, frac(1, 1), frac(2, 1)},
	} {
		low, high, err := tone.Farey(c.a, c.most)
		if err != api.OK || low != c.low || high != c.high {
			t.Errorf("%s: %v and %v, error %d, want %v and %v", c.name, low, high, err, c.low, c.high)
		}
	}
}

func TestFareyErrors(t *testing.T) {
	for _, c := range []struct {
		name string
		a    api.Tone
		most int
		want api.Errno
	}{
		{"most 0", fifth, 0, api.ErrArg},
		{"most below 0", fifth, math.MinInt, api.ErrArg},
		{"most 4097", fifth, 4097, api.ErrArg},
		{"the greatest most", fifth, math.MaxInt, api.ErrArg},
		{"2", octave, 12, api.ErrRange},
		{"hardly above 2", of(-572, 237, 85, 1), 12, api.ErrRange},
		{"3", of(0, 1, 0, 1), 12, api.ErrRange},
		{"below 1", of(1, -1, 0, 1), 12, api.ErrRange},
		{"hardly below 1", of(573, -237, -85, 1), 12, api.ErrRange},
		{"the greatest tone", of(960, 960, 960, 1), 12, api.ErrRange},
		{"the least tone", of(-960, -960, -960, 1), 12, api.ErrRange},
		{"2 and most 0", octave, 0, api.ErrArg},
		{"malformed and most 0", of(1, 1, 0, 25), 0, api.ErrForm},
		{"malformed and above 2", of(961, 0, 0, 1), 12, api.ErrForm},
	} {
		low, high, err := tone.Farey(c.a, c.most)
		if low != (api.Frac{}) || high != (api.Frac{}) || err != c.want {
			t.Errorf("%s: %v and %v, error %d, want %d", c.name, low, high, err, c.want)
		}
	}
}

// within returns tones from 1 to below 2.
func within(t *testing.T) []api.Tone {
	t.Helper()
	r := newRand()
	list := sample(r)
	for range 60 {
		list = append(list, random(r, 10, 1), random(r, 10, 12), random(r, 40, 24))
	}
	var out []api.Tone
	for _, a := range list {
		a.Two -= a.Den * parts(a, 1)
		if valid(a) {
			out = append(out, a)
		}
	}
	return out
}

// TestNeighbours tests T6 with all fractions there are.
func TestNeighbours(t *testing.T) {
	for _, a := range within(t) {
		for _, most := range []int{1, 2, 3, 9, 16} {
			low, high := api.Frac{Num: 1, Den: 1}, api.Frac{Num: 2, Den: 1}
			for den := 1; den <= most; den++ {
				for num := den; num <= 2*den; num++ {
					f := api.Frac{Num: num, Den: den}
					s := side(f, a)
					if s <= 0 && num*low.Den > low.Num*den {
						low = f
					}
					if s >= 0 && num*high.Den < high.Num*den {
						high = f
					}
				}
			}
			gotLow, gotHigh, err := tone.Farey(a, most)
			if err != api.OK || gotLow != low || gotHigh != high {
				t.Errorf("Farey(%v, %d): %v and %v, error %d, want %v and %v", a, most, gotLow, gotHigh, err, low, high)
			}
		}
	}
}

// TestFarNeighbours tests T6: there is no fraction between two that satisfy it unless its denominator is at least the sum of theirs.
func TestFarNeighbours(t *testing.T) {
	for _, a := range within(t) {
		for _, most := range []int{100, 1000, 4095, 4096} {
			low, high, err := tone.Farey(a, most)
			if err != api.OK || low.Den < 1 || low.Den > most || high.Den < 1 || high.Den > most || side(low, a) > 0 || side(high, a) < 0 {
				t.Errorf("Farey(%v, %d): %v and %v, error %d", a, most, low, high, err)
				continue
			}
			equal := low == high && side(low, a) == 0 && new(big.Int).GCD(nil, nil, bigInt(low.Num), bigInt(low.Den)).Int64() == 1
			apart := side(low, a) < 0 && side(high, a) > 0 && high.Num*low.Den-low.Num*high.Den == 1 && low.Den+high.Den > most
			if !equal && !apart {
				t.Errorf("Farey(%v, %d): %v and %v", a, most, low, high)
			}
		}
	}
}
