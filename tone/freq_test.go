package tone_test

import (
	"math"
	"math/big"
	"testing"

	"clavecin/api"
	"clavecin/tone"
)

func TestFreq(t *testing.T) {
	for _, c := range []struct {
		name string
		base uint64
		a    api.Tone
		want uint64
		err  api.Errno
	}{
		{"a fifth", 440000000, fifth, 660000000, api.OK},
		{"a tempered fifth", 440000000, of(7, 0, 0, 12), 659255113, api.OK},
		{"a meantone fifth", 440000000, of(0, 0, 1, 4), 657953463, api.OK},
		{"a fifth down", 440000000, of(1, -1, 0, 1), 293333333, api.OK},
		{"a unison", 415304697, unison, 415304697, api.OK},
		{"base 0", 0, fifth, 0, api.OK},
		{"base 0 and the greatest tone", 0, of(960, 960, 960, 1), 0, api.OK},
		{"base 1 and the least tone", 1, of(-960, -960, -960, 1), 0, api.OK},
		{"the greatest base and the least tone", math.MaxUint64, of(-960, -960, -960, 1), 0, api.OK},
		{"base 1 and the greatest tone", 1, of(960, 960, 960, 1), 0, api.ErrRange},
		{"the greatest base and tone", math.MaxUint64, of(960, 960, 960, 1), 0, api.ErrRange},
		{"the greatest base", math.MaxUint64, unison, 0, api.ErrRange},
		{"the greatest base, an octave down", math.MaxUint64, of(-1, 0, 0, 1), 1<<63 - 1, api.OK},
		{"2^63 - 1", 1<<63 - 1, unison, 1<<63 - 1, api.OK},
		{"2^63", 1 << 63, unison, 0, api.ErrRange},
		{"2^62, an octave up", 1 << 62, octave, 0, api.ErrRange},
		{"1, 62 octaves up", 1, of(62, 0, 0, 1), 1 << 62, api.OK},
		{"1, 63 octaves up", 1, of(63, 0, 0, 1), 0, api.ErrRange},
		{"1, 64 octaves up", 1, of(64, 0, 0, 1), 0, api.ErrRange},
		{"the root of 2", 1, of(1, 0, 0, 2), 1, api.OK},
		{"nearly 2", 1, of(23, 0, 0, 24), 1, api.OK},
		{"hardly above the base", 1000000, of(-573, 237, 85, 1), 1000000, api.OK},
		{"hardly below the base", 1000000, of(573, -237, -85, 1), 999999, api.OK},
	} {
		if got, err := tone.Freq(c.base, c.a); got != c.want || err != c.err {
			t.Errorf("%s: %d, error %d, want %d, error %d", c.name, got, err, c.want, c.err)
		}
	}
}

// testFreq tests T3, and that ErrRange is returned exactly for what it should be.
func testFreq(t *testing.T, base uint64, a api.Tone) {
	t.Helper()
	f, err := tone.Freq(base, a)
	over, under := sides(a.Two, a.Three, a.Five)
	den := bigInt(a.Den)
	exact := new(big.Int).SetUint64(base)
	exact.Exp(exact, den, nil).Mul(exact, over)
	// above tells whether n is greater than base times a.
	above := func(n *big.Int) bool {
		p := new(big.Int).Exp(n, den, nil)
		return p.Mul(p, under).Cmp(exact) > 0
	}
	limit := new(big.Int).Lsh(big.NewInt(1), 63)
	if !above(limit) {
		if f != 0 || err != api.ErrRange {
			t.Errorf("Freq(%d, %v): %d, error %d", base, a, f, err)
		}
		return
	}
	low := new(big.Int).SetUint64(f)
	high := new(big.Int).Add(low, big.NewInt(1))
	if err != api.OK || above(low) || !above(high) {
		t.Errorf("Freq(%d, %v): %d, error %d", base, a, f, err)
	}
}

func TestFrequencies(t *testing.T) {
	r := newRand()
	list := sample(r)
	for range 300 {
		list = append(list, random(r, 12, 12), random(r, 40, 24), random(r, 960, 24))
	}
	for _, a := range list {
		for _, base := range []uint64{0, 1, 2, 440000000, 1 << 32, 1<<60 - 1, 1<<63 - 1, 1 << 63, math.MaxUint64, r.Uint64(), r.Uint64() >> r.Intn(64)} {
			testFreq(t, base, a)
		}
	}
}
