package tone_test

import (
	"math/big"
	"math/rand"
	"testing"

	"clavecin/api"
	"clavecin/tone"
)

func of(two, three, five, den int) api.Tone {
	return api.Tone{Two: two, Three: three, Five: five, Den: den}
}

var (
	unison = of(0, 0, 0, 1)
	octave = of(1, 0, 0, 1)
	fifth  = of(-1, 1, 0, 1)
)

// near are the tones whose exponents are allowed and that are nearest to 1, and their neighbours by an octave.
func near() []api.Tone {
	return []api.Tone{
		of(-573, 237, 85, 1), of(573, -237, -85, 1), of(-887, -564, 767, 1), of(887, 564, -767, 1),
		of(713, -611, 110, 1), of(-713, 611, -110, 1), of(-572, 237, 85, 1), of(574, -237, -85, 1),
		of(-573, 237, 85, 24), of(573, -237, -85, 24),
	}
}

// nearPairs returns pairs of tones that are nearly the same. Their quotients to the power 23*24 are products
// of some powers of three numbers that are nearly 1.
func nearPairs() [][2]api.Tone {
	var list [][2]api.Tone
	for i := -3; i <= 3; i++ {
		for j := -3; j <= 3; j++ {
			for k := -3; k <= 3; k++ {
				two, three, five := 16875*i-36748*j+41982*k, 7633*i+37381*j-65100*k, -12478*i-9690*j+26357*k
				a, b := of(0, 0, 0, 24), of(0, 0, 0, 23)
				a.Two, b.Two = split(two)
				a.Three, b.Three = split(three)
				a.Five, b.Five = split(five)
				if valid(a) && valid(b) {
					list = append(list, [2]api.Tone{a, b})
				}
			}
		}
	}
	return list
}

// split returns a p near x/46 and a q near -x/48 with 23*p - 24*q = x.
func split(x int) (p, q int) {
	p = (x/46+x)/24*24 - x
	return p, (23*p - x) / 24
}

// sample returns tones of all kinds: usual ones, the farthest ones, those nearest to others, and any.
func sample(r *rand.Rand) []api.Tone {
	list := []api.Tone{
		unison, octave, fifth, of(0, 0, 1, 4), of(7, 0, 0, 12), of(1, 0, 0, 2), of(1, 0, 0, 24), of(-1, 0, 0, 24), of(23, 0, 0, 24),
		of(0, 2, 0, 1), of(4, -4, 1, 1), of(2, -1, 0, 1), of(-2, 0, 1, 1), of(1, 1, -1, 1), of(-19, 12, 0, 1), of(-1, 2, 0, 3), of(5, 0, 0, 1),
		of(960, 960, 960, 1), of(-960, -960, -960, 1), of(960, -960, 959, 23), of(-960, 960, -960, 7), of(959, 960, 960, 24),
		of(960, 0, 0, 1), of(-960, 0, 0, 1), of(0, 960, 0, 1), of(0, 0, -960, 1), of(959, 0, 0, 24), of(-1, 0, 0, 2),
	}
	list = append(list, near()...)
	for _, pair := range nearPairs()[:6] {
		list = append(list, pair[:]...)
	}
	for _, exp := range []int{3, 10, 40, 200, 960} {
		for range 5 {
			list = append(list, random(r, exp, 1), random(r, exp, api.MaxDen))
		}
	}
	return list
}

// random returns a valid tone with exponents and a denominator that are not greater.
func random(r *rand.Rand, exp, den int) api.Tone {
	exponent := func() int { return r.Intn(2*exp+1) - exp }
	for {
		if x := of(exponent(), exponent(), exponent(), 1+r.Intn(den)); valid(x) {
			return x
		}
	}
}

// valid is the document's definition, word by word.
func valid(x api.Tone) bool {
	if x.Den < 1 || x.Den > api.MaxDen {
		return false
	}
	exps := []int{x.Two, x.Three, x.Five}
	for _, e := range exps {
		if e < -api.MaxExp || e > api.MaxExp {
			return false
		}
	}
	for d := 2; d <= x.Den; d++ {
		if x.Den%d == 0 && exps[0]%d == 0 && exps[1]%d == 0 && exps[2]%d == 0 {
			return false
		}
	}
	return true
}

func newRand() *rand.Rand { return rand.New(rand.NewSource(1)) }

// reduced is the document's reduction of four integers of any size.
func reduced(two, three, five, den *big.Int) (api.Tone, api.Errno) {
	d := new(big.Int).Set(den)
	for _, e := range []*big.Int{two, three, five} {
		d.GCD(nil, nil, d, new(big.Int).Abs(e))
	}
	out := make([]int, 4)
	for i, e := range []*big.Int{two, three, five, den} {
		q := new(big.Int).Quo(e, d)
		if !q.IsInt64() {
			return api.Tone{}, api.ErrRange
		}
		out[i] = int(q.Int64())
	}
	x := of(out[0], out[1], out[2], out[3])
	if !valid(x) {
		return api.Tone{}, api.ErrRange
	}
	return x, api.OK
}

func bigInt(n int) *big.Int { return big.NewInt(int64(n)) }

// times returns a*b + c*d.
func times(a, b, c, d int) *big.Int {
	x := new(big.Int).Mul(bigInt(a), bigInt(b))
	return x.Add(x, new(big.Int).Mul(bigInt(c), bigInt(d)))
}

// sides multiplies out 2^two * 3^three * 5^five as a fraction.
func sides(two, three, five int) (over, under *big.Int) {
	over, under = big.NewInt(1), big.NewInt(1)
	for i, e := range []int{two, three, five} {
		base := big.NewInt([]int64{2, 3, 5}[i])
		if e > 0 {
			over.Mul(over, base.Exp(base, bigInt(e), nil))
		} else {
			under.Mul(under, base.Exp(base, bigInt(-e), nil))
		}
	}
	return over, under
}

// sign compares 2^two * 3^three * 5^five with 1 by multiplying it out.
func sign(two, three, five int) int {
	over, under := sides(two, three, five)
	return over.Cmp(under)
}

// order compares two tones by multiplying them out.
func order(a, b api.Tone) int {
	return sign(a.Two*b.Den-b.Two*a.Den, a.Three*b.Den-b.Three*a.Den, a.Five*b.Den-b.Five*a.Den)
}

// side compares a fraction with the tone a, not its logarithm.
func side(f api.Frac, a api.Tone) int {
	over, under := sides(a.Two, a.Three, a.Five)
	p := new(big.Int).Exp(bigInt(f.Num), bigInt(a.Den), nil)
	q := new(big.Int).Exp(bigInt(f.Den), bigInt(a.Den), nil)
	return p.Mul(p, under).Cmp(q.Mul(q, over))
}

// logSide compares a fraction with the logarithm of a.
func logSide(f api.Frac, a api.Tone) int {
	return -sign(f.Den*a.Two-f.Num*a.Den, f.Den*a.Three, f.Den*a.Five)
}

func wantTone(t *testing.T, name string, got api.Tone, err api.Errno, want api.Tone) {
	t.Helper()
	if err != api.OK || got != want {
		t.Errorf("%s: %v, error %d, want %v", name, got, err, want)
	}
}

// wantErr tests an error, and that no tone is returned with it.
func wantErr(t *testing.T, name string, got api.Tone, err, want api.Errno) {
	t.Helper()
	if err != want || got != (api.Tone{}) {
		t.Errorf("%s: %v, error %d, want error %d", name, got, err, want)
	}
}

// wantSame tests a tone and its error against those that are right.
func wantSame(t *testing.T, name string, got api.Tone, err api.Errno, want api.Tone, wantErr api.Errno) {
	t.Helper()
	if got != want || err != wantErr {
		t.Errorf("%s: %v, error %d, want %v, error %d", name, got, err, want, wantErr)
	}
}

func mul(t *testing.T, a, b api.Tone) api.Tone {
	t.Helper()
	x, err := tone.Mul(a, b)
	if err != api.OK {
		t.Fatalf("Mul(%v, %v): error %d", a, b, err)
	}
	return x
}
