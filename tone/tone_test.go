package tone_test

import (
	"math"
	"testing"

	"clavecin/api"
	"clavecin/tone"
)

// The signatures are fixed by the document.
var (
	_ func(two, three, five, den int) (api.Tone, api.Errno) = tone.Make
	_ func(api.Tone) api.Errno                              = tone.Check
	_ func(int) (api.Tone, api.Errno)                       = tone.Comma
	_ func(a, b api.Tone) (api.Tone, api.Errno)             = tone.Mul
	_ func(a, b api.Tone) (api.Tone, api.Errno)             = tone.Div
	_ func(a api.Tone, num, den int) (api.Tone, api.Errno)  = tone.Power
	_ func(a, b api.Tone) (int, api.Errno)                  = tone.Cmp
	_ func(api.Tone) (int, api.Tone, api.Errno)             = tone.Octave
	_ func(api.Tone) (int, api.Errno)                       = tone.Cents
	_ func(uint64, api.Tone) (uint64, api.Errno)            = tone.Freq
	_ func(api.Tone, int) ([]api.Frac, api.Errno)           = tone.Divisions
	_ func(api.Tone, int) (api.Frac, api.Frac, api.Errno)   = tone.Farey
	_ func(api.Tone) (string, api.Errno)                    = tone.Text
	_ func(string) (api.Tone, api.Errno)                    = tone.Parse
)

// extremes are integers at which sums and products overflow or limits lie.
var extremes = []int{
	0, 1, -1, 2, -3, 24, 25, 600, 960, -960, 961, -961, 23040, 1 << 31, 1 << 32, 1 << 61, 3 << 61, 1 << 62, -1 << 62,
	math.MaxInt, math.MaxInt - 1, math.MinInt, math.MinInt + 1, math.MaxInt / 24, math.MaxInt / 960,
}

func TestCheck(t *testing.T) {
	for _, c := range []struct {
		x    api.Tone
		want api.Errno
	}{
		{unison, api.OK}, {fifth, api.OK}, {of(0, 0, 1, 4), api.OK}, {of(7, 0, 0, 12), api.OK}, {of(1, 0, 0, 24), api.OK},
		{of(960, 960, 960, 1), api.OK}, {of(-960, -960, -960, 1), api.OK}, {of(6, 10, 15, 1), api.OK},
		{of(960, 960, 959, 24), api.OK}, {of(-960, 960, -959, 24), api.OK}, {of(6, 10, 15, 24), api.OK}, {of(2, 3, 0, 6), api.OK},
		{api.Tone{}, api.ErrForm}, {of(1, 1, 1, 0), api.ErrForm}, {of(-1, 1, 0, -1), api.ErrForm}, {of(0, 0, 1, 25), api.ErrForm},
		{of(961, 0, 0, 1), api.ErrForm}, {of(0, 961, 0, 1), api.ErrForm}, {of(0, 0, 961, 1), api.ErrForm},
		{of(-961, 0, 0, 1), api.ErrForm}, {of(0, -961, 0, 1), api.ErrForm}, {of(0, 0, -961, 1), api.ErrForm},
		{of(0, 0, 0, 2), api.ErrForm}, {of(0, 0, 0, 24), api.ErrForm}, {of(2, 4, 6, 8), api.ErrForm}, {of(-2, 0, 0, 2), api.ErrForm},
		{of(0, 3, 0, 3), api.ErrForm}, {of(0, 0, -5, 10), api.ErrForm}, {of(960, 960, 960, 24), api.ErrForm}, {of(23, -23, 46, 23), api.ErrForm},
		{of(math.MinInt, 0, 0, 1), api.ErrForm}, {of(0, math.MaxInt, 0, 1), api.ErrForm}, {of(0, 0, math.MinInt, 1), api.ErrForm},
		{of(1, 0, 0, math.MinInt), api.ErrForm}, {of(1, 0, 0, math.MaxInt), api.ErrForm}, {of(1, 1<<32, 0, 1), api.ErrForm},
	} {
		if got := tone.Check(c.x); got != c.want {
			t.Errorf("Check(%v): %d, want %d", c.x, got, c.want)
		}
	}
	r := newRand()
	for range 20000 {
		x := of(r.Intn(14)-7, r.Intn(14)-7, r.Intn(14)-7, r.Intn(28)-1)
		if got := tone.Check(x); (got == api.OK) != valid(x) || got != api.OK && got != api.ErrForm {
			t.Errorf("Check(%v): %d", x, got)
		}
	}
}

func TestMake(t *testing.T) {
	x, err := tone.Make(2, 4, 0, 6)
	wantTone(t, "Make(2, 4, 0, 6)", x, err, of(1, 2, 0, 3))
	x, err = tone.Make(0, 0, 0, 7)
	wantTone(t, "Make(0, 0, 0, 7)", x, err, unison)
	for _, den := range []int{0, -1, -24, math.MinInt} {
		for _, two := range []int{0, 1, 961, math.MinInt} {
			x, err := tone.Make(two, 0, 0, den)
			wantErr(t, "Make with a denominator below 1", x, err, api.ErrArg)
		}
	}
	for _, den := range extremes {
		if den < 1 {
			continue
		}
		for _, a := range extremes {
			for _, b := range extremes {
				testMake(t, a, b, 0, den)
				testMake(t, 0, a, b, den)
				testMake(t, b, 0, a, den)
				testMake(t, a, b, b, den)
			}
		}
	}
	r := newRand()
	for range 20000 {
		k := 1 + r.Intn(100)
		testMake(t, k*(r.Intn(2000)-1000), k*(r.Intn(2000)-1000), k*(r.Intn(2000)-1000), k*(1+r.Intn(30)))
	}
}

func testMake(t *testing.T, two, three, five, den int) {
	t.Helper()
	x, err := tone.Make(two, three, five, den)
	want, wantErr := reduced(bigInt(two), bigInt(three), bigInt(five), bigInt(den))
	if x != want || err != wantErr {
		t.Errorf("Make(%d, %d, %d, %d): %v, error %d, want %v, error %d", two, three, five, den, x, err, want, wantErr)
	}
}

func TestComma(t *testing.T) {
	for _, c := range []struct {
		kind        int
		over, under int64
	}{
		{api.CommaPythagorean, 531441, 524288}, {api.CommaSyntonic, 81, 80}, {api.CommaSchisma, 32805, 32768}, {api.CommaDiesis, 128, 125},
	} {
		x, err := tone.Comma(c.kind)
		over, under := sides(x.Two, x.Three, x.Five)
		if err != api.OK || x.Den != 1 || over.Int64() != c.over || under.Int64() != c.under {
			t.Errorf("Comma(%d): %v, error %d", c.kind, x, err)
		}
	}
	for _, kind := range []int{-1, 4, 5, math.MaxInt, math.MinInt} {
		x, err := tone.Comma(kind)
		wantErr(t, "another kind of comma", x, err, api.ErrArg)
	}
}

func TestMulAndDiv(t *testing.T) {
	list := sample(newRand())
	for _, a := range list {
		for _, b := range list {
			den := times(a.Den, b.Den, 0, 0)
			want, wantErr := reduced(times(a.Two, b.Den, b.Two, a.Den), times(a.Three, b.Den, b.Three, a.Den), times(a.Five, b.Den, b.Five, a.Den), den)
			x, err := tone.Mul(a, b)
			wantSame(t, "Mul", x, err, want, wantErr)
			y, err := tone.Mul(b, a)
			wantSame(t, "Mul the other way round", y, err, want, wantErr)
			if wantErr == api.OK {
				back, err := tone.Div(x, b)
				wantTone(t, "Div undoes Mul", back, err, a)
			}
			want, wantErr = reduced(times(a.Two, b.Den, -b.Two, a.Den), times(a.Three, b.Den, -b.Three, a.Den), times(a.Five, b.Den, -b.Five, a.Den), den)
			x, err = tone.Div(a, b)
			wantSame(t, "Div", x, err, want, wantErr)
		}
	}
}

func TestMulLimits(t *testing.T) {
	for _, c := range []struct {
		name string
		a, b api.Tone
		want api.Tone
		err  api.Errno
	}{
		{"the greatest exponent", of(959, 0, 0, 1), octave, of(960, 0, 0, 1), api.OK},
		{"one more", of(960, 0, 0, 1), octave, api.Tone{}, api.ErrRange},
		{"one less", of(-960, 0, 0, 1), of(-1, 0, 0, 1), api.Tone{}, api.ErrRange},
		{"3 too often", of(0, 960, 0, 1), of(0, 1, 0, 1), api.Tone{}, api.ErrRange},
		{"5 too often", of(0, 0, -960, 1), of(0, 0, -1, 1), api.Tone{}, api.ErrRange},
		{"denominators 3 and 8", of(1, 0, 0, 3), of(0, 1, 0, 8), of(8, 3, 0, 24), api.OK},
		{"denominators 5 and 8", of(1, 0, 0, 5), of(0, 1, 0, 8), api.Tone{}, api.ErrRange},
		{"denominators 24 and 24", of(1, 0, 0, 24), of(1, 0, 0, 24), of(1, 0, 0, 12), api.OK},
		{"the denominator goes", of(1, 2, 0, 3), of(-1, 1, 0, 3), of(0, 1, 0, 1), api.OK},
		{"exponents that are great only before they are reduced", of(479, 0, 0, 24), of(481, 0, 0, 24), of(40, 0, 0, 1), api.OK},
		{"exponents that the common denominator makes too great", of(480, 0, 0, 1), of(1, 0, 0, 2), api.Tone{}, api.ErrRange},
		{"nothing is left", of(7, -3, 2, 5), of(-7, 3, -2, 5), unison, api.OK},
	} {
		x, err := tone.Mul(c.a, c.b)
		wantSame(t, c.name, x, err, c.want, c.err)
	}
	x, err := tone.Div(of(960, 0, 0, 1), of(-1, 0, 0, 1))
	wantErr(t, "a quotient that is too great", x, err, api.ErrRange)
	x, err = tone.Div(fifth, fifth)
	wantTone(t, "a fifth by itself", x, err, unison)
	x, err = tone.Div(unison, of(960, -960, 960, 1))
	wantTone(t, "the reciprocal", x, err, of(-960, 960, -960, 1))
}

// TestGroup tests T1.
func TestGroup(t *testing.T) {
	r := newRand()
	for range 3000 {
		a, b, c := random(r, 50, 4), random(r, 50, 4), random(r, 50, 4)
		left, right := mul(t, mul(t, a, b), c), mul(t, a, mul(t, b, c))
		wantTone(t, "Mul is associative", left, api.OK, right)
		x, err := tone.Div(mul(t, a, b), b)
		wantTone(t, "Div undoes Mul", x, err, a)
		x, err = tone.Power(a, 1, 1)
		wantTone(t, "the first power", x, err, a)
		p, q, s, u := r.Intn(9)-4, 1+r.Intn(3), r.Intn(9)-4, 1+r.Intn(2)
		one, err := tone.Power(a, p, q)
		if err != api.OK {
			t.Fatalf("Power(%v, %d, %d): error %d", a, p, q, err)
		}
		two, err := tone.Power(one, s, u)
		want, wantErr := tone.Power(a, p*s, q*u)
		wantSame(t, "Power of Power", two, err, want, wantErr)
	}
}

func TestQuarterComma(t *testing.T) {
	comma, _ := tone.Comma(api.CommaSyntonic)
	x, err := tone.Power(comma, -1, 4)
	wantTone(t, "a quarter of the comma down", x, err, of(4, -4, 1, 4))
	wantTone(t, "the meantone fifth", mul(t, fifth, x), api.OK, of(0, 0, 1, 4))
}

func TestPower(t *testing.T) {
	for _, c := range []struct {
		name     string
		a        api.Tone
		num, den int
		want     api.Tone
		err      api.Errno
	}{
		{"the power 0", of(7, -5, 3, 24), 0, 1, unison, api.OK},
		{"the power 0/9", of(7, -5, 3, 24), 0, math.MaxInt, unison, api.OK},
		{"not in lowest terms", fifth, 6, 4, of(-3, 3, 0, 2), api.OK},
		{"the reciprocal", of(7, -5, 3, 24), -1, 1, of(-7, 5, -3, 24), api.OK},
		{"a root", of(960, 0, 0, 1), 1, 960, octave, api.OK},
		{"a root with a rest", of(960, 0, 0, 1), 1, 960 * 7, of(1, 0, 0, 7), api.OK},
		{"the greatest denominator", of(960, 0, 0, 1), 1, 23040, of(1, 0, 0, 24), api.OK},
		{"a denominator that is too great", of(960, 0, 0, 1), 1, 24000, api.Tone{}, api.ErrRange},
		{"a great power of a root", of(1, 0, 0, 24), 23040, 1, of(960, 0, 0, 1), api.OK},
		{"one that is too great", of(1, 0, 0, 24), 23041, 1, api.Tone{}, api.ErrRange},
		{"the same with whole octaves", of(1, 0, 0, 24), 23064, 1, api.Tone{}, api.ErrRange},
		{"everything is taken out", of(600, 0, -960, 7), 7, 120, of(5, 0, -8, 1), api.OK},
		{"1 to any power", unison, math.MinInt, math.MaxInt, unison, api.OK},
		{"1 to another one", unison, math.MaxInt, 1, unison, api.OK},
		{"the greatest fraction that is 1", fifth, math.MaxInt, math.MaxInt, fifth, api.OK},
		{"the least numerator", fifth, math.MinInt, 1 << 62, of(2, -2, 0, 1), api.OK},
		{"too great by far", fifth, math.MaxInt, 1, api.Tone{}, api.ErrRange},
		{"too small by far", fifth, math.MinInt, 1, api.Tone{}, api.ErrRange},
		{"an exponent that overflows to 0", of(4, 0, 0, 1), 1 << 62, 1, api.Tone{}, api.ErrRange},
		{"exponents that overflow to 0 and below", of(4, 2, 0, 3), 1 << 62, 1, api.Tone{}, api.ErrRange},
		{"a denominator that overflows to 0", of(1, 0, 0, 24), 1, 1 << 61, api.Tone{}, api.ErrRange},
		{"a denominator that overflows to 24", of(5, 0, 0, 24), 3, 1<<61 + 1, api.Tone{}, api.ErrRange},
		{"961/25 of tones that 5 divides", of(5, 0, 0, 1), 961, 25, api.Tone{}, api.ErrRange},
		{"960/25 of tones that 5 divides", of(5, 0, 0, 1), 960, 25, of(192, 0, 0, 1), api.OK},
	} {
		x, err := tone.Power(c.a, c.num, c.den)
		wantSame(t, c.name, x, err, c.want, c.err)
	}
	for _, den := range []int{0, -1, math.MinInt} {
		for _, a := range []api.Tone{unison, fifth} {
			x, err := tone.Power(a, 1, den)
			wantErr(t, "a denominator below 1", x, err, api.ErrArg)
		}
	}
}

func TestPowerOfAll(t *testing.T) {
	r := newRand()
	nums := append(extremes, 3, 5, 7, 12, -12, 100)
	for _, a := range sample(r) {
		for _, num := range nums {
			for _, den := range nums {
				if den > 0 {
					testPower(t, a, num, den)
				}
			}
		}
		for range 50 {
			testPower(t, a, r.Intn(100)-50, 1+r.Intn(50))
		}
	}
}

func testPower(t *testing.T, a api.Tone, num, den int) {
	t.Helper()
	want, wantErr := reduced(times(a.Two, num, 0, 0), times(a.Three, num, 0, 0), times(a.Five, num, 0, 0), times(a.Den, den, 0, 0))
	x, err := tone.Power(a, num, den)
	if x != want || err != wantErr {
		t.Errorf("Power(%v, %d, %d): %v, error %d, want %v, error %d", a, num, den, x, err, want, wantErr)
	}
}
