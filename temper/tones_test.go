package temper_test

import (
	"fmt"
	"math"
	"math/big"
	"math/rand"
	"slices"
	"testing"

	"clavecin/api"
	"clavecin/temper"
)

// part is 2^(two/units) * 3^(three/units).
type part struct{ two, three, units int }

// tempered is the document's definition of a fifth with so many steps.
func tempered(step, units int) part {
	return part{two: -units + 19*step, three: units - 12*step, units: units}
}

func (p part) times(q part) part {
	return part{two: p.two + q.two, three: p.three + q.three, units: p.units}
}

// tone returns p in lowest terms, and whether that is a valid tone.
func (p part) tone() (api.Tone, bool) {
	d := 1
	for k := 2; k <= p.units; k++ {
		if p.two%k == 0 && p.three%k == 0 && p.units%k == 0 {
			d = k
		}
	}
	x := api.Tone{Two: p.two / d, Three: p.three / d, Den: p.units / d}
	return x, max(x.Two, -x.Two, x.Three, -x.Three) <= 960 && x.Den <= 24
}

// power returns p^units as a fraction.
func (p part) power() (over, under *big.Int) {
	over, under = big.NewInt(1), big.NewInt(1)
	for i, e := range []int{p.two, p.three} {
		base := big.NewInt([]int64{2, 3}[i])
		if e > 0 {
			over.Mul(over, base.Exp(base, big.NewInt(int64(e)), nil))
		} else {
			under.Mul(under, base.Exp(base, big.NewInt(int64(-e)), nil))
		}
	}
	return over, under
}

// atLeast tells whether base times p is at least n.
func (p part) atLeast(base, n *big.Int) bool {
	over, under := p.power()
	units := big.NewInt(int64(p.units))
	left := new(big.Int).Exp(base, units, nil)
	right := new(big.Int).Exp(n, units, nil)
	return left.Mul(left, over).Cmp(right.Mul(right, under)) >= 0
}

// octave takes whole octaves away from p.
func (p part) octave() part {
	one, two := big.NewInt(1), big.NewInt(2)
	for p.atLeast(one, two) {
		p.two -= p.units
	}
	for !p.atLeast(one, one) {
		p.two += p.units
	}
	return p
}

// freq returns the integer part of base times p, bit by bit.
func (p part) freq(base uint64) uint64 {
	f := uint64(0)
	for bit := 62; bit >= 0; bit-- {
		if p.atLeast(new(big.Int).SetUint64(base), new(big.Int).SetUint64(f|1<<bit)) {
			f |= 1 << bit
		}
	}
	return f
}

// circle returns the tones of a temperament and the fifths above them, and an error for the tones and for the last fifth.
func circle(steps []int, units int) (tones, ups []part, err, lastErr api.Errno) {
	p := part{units: units}
	for i, step := range steps {
		tones = append(tones, p)
		up := p.times(tempered(step, units))
		ups = append(ups, up)
		_, fits := up.tone()
		next := up.octave()
		_, nextFits := next.tone()
		if i == len(steps)-1 {
			if !fits {
				lastErr = api.ErrRange
			}
			break
		}
		if !fits || !nextFits {
			return nil, nil, api.ErrRange, api.ErrRange
		}
		p = next
	}
	return tones, ups, api.OK, lastErr
}

// anyTemperament returns steps and units.
func anyTemperament(r *rand.Rand) ([]int, int) {
	low := []int{-12, 0, 12, 1, r.Intn(25) - 12}[r.Intn(5)]
	high := min(12, low+r.Intn(5))
	if r.Intn(3) == 0 {
		low, high = -12, 12
	}
	units := []int{1, 12, 24, 23, 1 + r.Intn(24)}[r.Intn(5)]
	return anyList(r, 1+r.Intn(24), low, high), units
}

// badTemperaments returns steps and units that are no temperament.
func badTemperaments() ([][]int, []int) {
	steps := [][]int{nil, {}, repeat(25, 0), {13}, {-13}, append(repeat(11, 1), 13), append(repeat(23, 0), -13), {0, math.MaxInt}, {0, math.MinInt}}
	units := slices.Repeat([]int{12}, len(steps))
	for _, u := range []int{0, -1, 25, math.MinInt, math.MaxInt} {
		steps, units = append(steps, repeat(12, 1)), append(units, u)
	}
	return steps, units
}

// outOfRange are steps that make tones beyond their range with a unit: the one of them that is not the last.
var outOfRange = append(repeat(20, 12), 11, 0)

func TestTonesExamples(t *testing.T) {
	equal, err := temper.Tones(repeat(12, 1), 12)
	want := make([]api.Tone, 12)
	for i := range want {
		p := part{two: i * 7 % 12, units: 12}
		want[i], _ = p.tone()
	}
	wantList(t, "equal temperament", equal, err, want, api.OK)
	pure, err := temper.Tones(repeat(4, 0), 7)
	wantList(t, "pure fifths", pure, err, []api.Tone{{Den: 1}, {Two: -1, Three: 1, Den: 1}, {Two: -3, Three: 2, Den: 1}, {Two: -4, Three: 3, Den: 1}}, api.OK)
	one, err := temper.Tones([]int{-12}, 24)
	wantList(t, "one fifth", one, err, []api.Tone{{Den: 1}}, api.OK)
	comma, err := temper.Tones([]int{12, 0}, 12)
	wantList(t, "a fifth narrowed by a comma", comma, err, []api.Tone{{Den: 1}, {Two: 18, Three: -11, Den: 1}}, api.OK)
	wide, err := temper.Tones([]int{-12, 0}, 1)
	wantList(t, "a wide fifth", wide, err, []api.Tone{{Den: 1}, {Two: -229, Three: 145, Den: 1}}, api.OK)
}

func TestTonesRange(t *testing.T) {
	_, _, err, _ := circle(outOfRange, 24)
	got, gotErr := temper.Tones(outOfRange, 24)
	if err != api.ErrRange {
		t.Fatal("these steps are in range")
	}
	wantList(t, "Tones out of range", got, gotErr, nil, api.ErrRange)

	seen := map[api.Errno]int{}
	r := newRand()
	for range 3000 {
		steps, units := anyTemperament(r)
		tones, _, err, _ := circle(steps, units)
		var want []api.Tone
		for _, p := range tones {
			x, _ := p.tone()
			want = append(want, x)
		}
		got, gotErr := temper.Tones(steps, units)
		wantList(t, fmt.Sprintf("Tones(%v, %d)", steps, units), got, gotErr, want, err)
		seen[err]++
	}
	if seen[api.OK] < 100 || seen[api.ErrRange] < 100 {
		t.Errorf("too few cases of one kind: %v", seen)
	}
}

// TestTonesOctaveRange looks for a fifth that is a valid tone and that Octave takes out of range.
func TestTonesOctaveRange(t *testing.T) {
	found := 0
	r := newRand()
	for range 20000 {
		steps, units := anyList(r, 24, -12, -7), 5+r.Intn(20)
		p := part{units: units}
		for i, step := range steps {
			up := p.times(tempered(step, units))
			_, fits := up.tone()
			p = up.octave()
			_, octaveFits := p.tone()
			if fits && !octaveFits {
				got, err := temper.Tones(steps[:i+1], units)
				if err != api.OK || len(got) != i+1 {
					t.Errorf("Tones(%v, %d): %v, error %d", steps[:i+1], units, got, err)
				}
				got, err = temper.Tones(steps[:i+2], units)
				wantList(t, fmt.Sprintf("Tones(%v, %d)", steps[:i+2], units), got, err, nil, api.ErrRange)
				found++
			}
			if !fits || !octaveFits || i == 22 {
				break
			}
		}
		if found == 20 {
			return
		}
	}
	t.Errorf("only %d cases found", found)
}

func TestTonesArg(t *testing.T) {
	steps, units := badTemperaments()
	for i, l := range steps {
		name := fmt.Sprintf("%v, %d", l, units[i])
		tones, err := temper.Tones(l, units[i])
		wantList(t, "Tones "+name, tones, err, nil, api.ErrArg)
		ok, err := temper.Closes(l, units[i])
		if ok || err != api.ErrArg {
			t.Errorf("Closes %s: %t, error %d", name, ok, err)
		}
		for _, base := range []uint64{0, 440, 1 << 63} {
			scale, err := temper.Scale(base, l, units[i])
			wantList(t, "Scale "+name, scale, err, nil, api.ErrArg)
			beats, err := temper.Beats(base, l, units[i])
			wantList(t, "Beats "+name, beats, err, nil, api.ErrArg)
		}
	}
	for _, u := range []int{1, 24} {
		if _, err := temper.Tones(append(repeat(22, 0), 12, -12), u); err != api.OK {
			t.Errorf("Tones with units %d: error %d", u, err)
		}
	}
}

func wantCloses(t *testing.T, steps []int, units int, want bool) {
	t.Helper()
	if got, err := temper.Closes(steps, units); got != want || err != api.OK {
		t.Errorf("Closes(%v, %d): %t, error %d", steps, units, got, err)
	}
}

func TestCloses(t *testing.T) {
	wantCloses(t, repeat(12, 1), 12, true)
	wantCloses(t, repeat(12, 0), 12, false)
	wantCloses(t, append(repeat(11, 0), 12), 12, true)
	wantCloses(t, append(repeat(11, 0), 1), 1, true)
	wantCloses(t, []int{1}, 12, false) // 7/12 of an octave
	wantCloses(t, []int{7}, 12, false)
	wantCloses(t, []int{2}, 24, false)
	wantCloses(t, repeat(24, 1), 12, true)
	wantCloses(t, repeat(6, 1), 12, false) // three octaves and a half
	wantCloses(t, repeat(24, 12), 24, false)
	wantCloses(t, repeat(24, 12), 1, false) // no tone that is valid
	wantCloses(t, outOfRange, 24, false)
	r := newRand()
	for range 5000 {
		steps, units := anyTemperament(r)
		p := part{units: units}
		for _, s := range steps {
			p = p.times(tempered(s, units))
		}
		over, under := p.power()
		wantCloses(t, steps, units, isPowerOfTwo(over, under, units))
	}
}

// isPowerOfTwo tells whether a fraction is 2 to the power of a multiple of units.
func isPowerOfTwo(over, under *big.Int, units int) bool {
	q, rest := new(big.Int).QuoRem(over, under, new(big.Int))
	if rest.Sign() != 0 || q.TrailingZeroBits() != uint(q.BitLen()-1) {
		return false // the product of a fifth or more is above 1: no power of 1/2
	}
	return (q.BitLen()-1)%units == 0
}

// TestTwelveClose is promise M3, and P4.
func TestTwelveClose(t *testing.T) {
	r := newRand()
	for units := 1; units <= 24; units++ {
		for range 40 {
			steps := anyList(r, 12, -1, 4)
			for i := range 12 {
				if r.Intn(3) == 0 {
					break
				}
				rest := units - sumOf(steps)
				steps[i] = max(-12, min(12, steps[i]+rest))
			}
			wantCloses(t, steps, units, sumOf(steps) == units)
		}
	}
}

func sumOf(list []int) int {
	sum := 0
	for _, n := range list {
		sum += n
	}
	return sum
}

func TestScaleAndBeats(t *testing.T) {
	scale, err := temper.Scale(400, []int{0, 0}, 1)
	wantList(t, "Scale", scale, err, []uint64{400, 600}, api.OK)
	scale, err = temper.Scale(256, repeat(4, 0), 1)
	wantList(t, "Scale", scale, err, []uint64{256, 288, 384, 432}, api.OK)
	scale, err = temper.Scale(1, repeat(12, 1), 12)
	wantList(t, "Scale of equal frequencies", scale, err, slices.Repeat([]uint64{1}, 12), api.OK)
	beats, err := temper.Beats(400, []int{0, 0}, 1)
	wantList(t, "Beats of pure fifths", beats, err, []uint64{0, 0}, api.OK)
	beats, err = temper.Beats(3, []int{0}, 1)
	wantList(t, "Beats of what is rounded", beats, err, []uint64{1}, api.OK)
	beats, err = temper.Beats(100000, []int{1, -1}, 12)
	wantList(t, "Beats of a narrow and a wide fifth", beats, err, []uint64{300000 - 2*149830, 2*225000 - 3*149830}, api.OK)
}

func TestScaleAndBeatsExact(t *testing.T) {
	r := newRand()
	errs := map[api.Errno]int{}
	for range 150 {
		steps, units := anyTemperament(r)
		base := []uint64{1, 1<<60 - 1, 440000000, 1 + uint64(r.Int63n(1<<60-1)), 1 + uint64(r.Intn(1000))}[r.Intn(5)]
		wantScale(t, base, steps, units)
		errs[wantBeats(t, base, steps, units)]++
	}
	if errs[api.OK] < 30 || errs[api.ErrRange] < 10 {
		t.Errorf("too few cases of one kind: %v", errs)
	}
}

// wantScale compares Scale with the document's definition.
func wantScale(t *testing.T, base uint64, steps []int, units int) {
	t.Helper()
	tones, _, err, _ := circle(steps, units)
	var scale []uint64
	for _, p := range tones {
		scale = append(scale, p.freq(base))
	}
	slices.Sort(scale)
	got, gotErr := temper.Scale(base, steps, units)
	wantList(t, fmt.Sprintf("Scale(%d, %v, %d)", base, steps, units), got, gotErr, scale, err)
}

// wantBeats compares Beats with the document's definition, and returns the error.
func wantBeats(t *testing.T, base uint64, steps []int, units int) api.Errno {
	t.Helper()
	tones, ups, err, lastErr := circle(steps, units)
	var beats []uint64
	for i, p := range tones {
		f, g := p.freq(base), ups[i].freq(base)
		beats = append(beats, max(3*f, 2*g)-min(3*f, 2*g))
	}
	if lastErr != api.OK {
		err, beats = api.ErrRange, nil
	}
	got, gotErr := temper.Beats(base, steps, units)
	wantList(t, fmt.Sprintf("Beats(%d, %v, %d)", base, steps, units), got, gotErr, beats, err)
	return err
}

// lastOutOfRange returns a temperament whose tones are valid, but not the last fifth above them.
func lastOutOfRange(t *testing.T) ([]int, int) {
	r := newRand()
	for range 100000 {
		steps, units := anyTemperament(r)
		if _, _, err, lastErr := circle(steps, units); err == api.OK && lastErr == api.ErrRange {
			return steps, units
		}
	}
	t.Fatal("no such temperament found")
	return nil, 0
}

func TestBase(t *testing.T) {
	lastSteps, lastUnits := lastOutOfRange(t)
	for _, base := range []uint64{0, 1 << 60, 1<<60 + 1, 1 << 63, math.MaxUint64} {
		scale, err := temper.Scale(base, repeat(12, 1), 12)
		wantList(t, "Scale on a bad base", scale, err, nil, api.ErrArg)
		beats, err := temper.Beats(base, repeat(12, 1), 12)
		wantList(t, "Beats on a bad base", beats, err, nil, api.ErrArg)
		scale, err = temper.Scale(base, outOfRange, 24)
		wantList(t, "Scale: tones come first", scale, err, nil, api.ErrRange)
		beats, err = temper.Beats(base, outOfRange, 24)
		wantList(t, "Beats: tones come first", beats, err, nil, api.ErrRange)
		beats, err = temper.Beats(base, lastSteps, lastUnits)
		wantList(t, "Beats: the base comes ahead of the last fifth", beats, err, nil, api.ErrArg)
	}
	for _, base := range []uint64{1, 1<<60 - 1} {
		if _, err := temper.Scale(base, lastSteps, lastUnits); err != api.OK {
			t.Errorf("Scale(%d, %v, %d): error %d", base, lastSteps, lastUnits, err)
		}
		beats, err := temper.Beats(base, lastSteps, lastUnits)
		wantList(t, "Beats: the last fifth", beats, err, nil, api.ErrRange)
	}
	wantBeats(t, 1<<60-1, append(repeat(4, -12), 12), 1) // the greatest frequencies
}
