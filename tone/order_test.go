package tone_test

import (
	"math/big"
	"testing"

	"clavecin/api"
	"clavecin/tone"
)

func cmpTones(t *testing.T, a, b api.Tone) int {
	t.Helper()
	c, err := tone.Cmp(a, b)
	if err != api.OK {
		t.Fatalf("Cmp(%v, %v): error %d", a, b, err)
	}
	return c
}

func TestCmp(t *testing.T) {
	if c := cmpTones(t, fifth, of(7, 0, 0, 12)); c != 1 {
		t.Errorf("a pure fifth and seven twelfths of an octave: %d", c)
	}
	r := newRand()
	list := sample(r)
	for i, a := range list {
		if c := cmpTones(t, a, a); c != 0 {
			t.Errorf("Cmp(%v, the same): %d", a, c)
		}
		// To multiply out takes long: some of the pairs are enough.
		for range 8 {
			b := list[r.Intn(len(list))]
			if c := cmpTones(t, a, b); c != order(a, b) || cmpTones(t, b, a) != -c {
				t.Errorf("Cmp(%v, %v): %d", a, b, c)
			}
		}
		if i > 0 {
			b := list[i-1]
			if c := cmpTones(t, a, b); c != order(a, b) || cmpTones(t, b, a) != -c {
				t.Errorf("Cmp(%v, %v): %d", a, b, c)
			}
		}
	}
	for range 3000 {
		a, b := random(r, 12, 6), random(r, 12, 6)
		if c := cmpTones(t, a, b); c != order(a, b) {
			t.Errorf("Cmp(%v, %v): %d", a, b, c)
		}
	}
}

// TestCmpNear compares tones that are nearer to each other than floating point could tell.
func TestCmpNear(t *testing.T) {
	pairs := nearPairs()
	for _, a := range near() {
		pairs = append(pairs, [2]api.Tone{a, unison}, [2]api.Tone{a, octave})
	}
	for _, p := range pairs {
		a, b := p[0], p[1]
		if want := order(a, b); want == 0 || cmpTones(t, a, b) != want || cmpTones(t, b, a) != -want {
			t.Errorf("Cmp(%v, %v) is not %d", a, b, want)
		}
	}
}

// TestOrder tests T2.
func TestOrder(t *testing.T) {
	r := newRand()
	for range 2000 {
		a, b, c := random(r, 100, 4), random(r, 100, 4), random(r, 100, 4)
		ab := cmpTones(t, a, b)
		if (ab == 0) != (a == b) || cmpTones(t, b, a) != -ab {
			t.Errorf("Cmp(%v, %v): %d", a, b, ab)
		}
		if got := cmpTones(t, mul(t, a, c), mul(t, b, c)); got != ab {
			t.Errorf("%v and %v, both times %v: %d, want %d", a, b, c, got, ab)
		}
		if bc := cmpTones(t, b, c); ab == bc && cmpTones(t, a, c) != ab {
			t.Errorf("%v, %v and %v are not in order", a, b, c)
		}
	}
}

// parts returns how many parts of an octave the tone has, rounded down, by multiplying it out.
func parts(a api.Tone, octave int) int {
	over, under := sides(octave*a.Two, octave*a.Three, octave*a.Five)
	m := over.BitLen() - under.BitLen()
	if m >= 0 {
		under.Lsh(under, uint(m))
	} else {
		over.Lsh(over, uint(-m))
	}
	if over.Cmp(under) < 0 {
		m--
	}
	return int(new(big.Int).Div(bigInt(m), bigInt(a.Den)).Int64())
}

func TestOctave(t *testing.T) {
	k, x, err := tone.Octave(of(0, 2, 0, 1))
	wantTone(t, "the rest of 9", x, err, of(-3, 2, 0, 1))
	if k != 3 {
		t.Errorf("the octaves of 9: %d", k)
	}
	r := newRand()
	list := sample(r)
	for range 500 {
		list = append(list, random(r, 300, 24), random(r, 960, 24))
	}
	for _, a := range list {
		k, x, err := tone.Octave(a)
		want := parts(a, 1)
		rest := of(a.Two-want*a.Den, a.Three, a.Five, a.Den)
		if !valid(rest) {
			if k != 0 {
				t.Errorf("Octave(%v): %d beside error %d", a, k, err)
			}
			wantErr(t, "Octave", x, err, api.ErrRange)
			continue
		}
		wantTone(t, "Octave", x, err, rest)
		if k != want {
			t.Errorf("Octave(%v): %d, want %d", a, k, want)
		}
	}
}

func TestOctaveLimits(t *testing.T) {
	for _, c := range []struct {
		a    api.Tone
		k    int
		rest api.Tone
		err  api.Errno
	}{
		{unison, 0, unison, api.OK},
		{octave, 1, unison, api.OK},
		{of(-1, 0, 0, 1), -1, unison, api.OK},
		{of(960, 0, 0, 1), 960, unison, api.OK},
		{of(-960, 0, 0, 1), -960, unison, api.OK},
		{of(-1, 0, 0, 24), -1, of(23, 0, 0, 24), api.OK},
		{of(23, 0, 0, 24), 0, of(23, 0, 0, 24), api.OK},
		{of(25, 0, 0, 24), 1, of(1, 0, 0, 24), api.OK},
		{of(0, 605, 0, 1), 958, of(-958, 605, 0, 1), api.OK},
		{of(0, 606, 0, 1), 960, of(-960, 606, 0, 1), api.OK},
		{of(0, 607, 0, 1), 0, api.Tone{}, api.ErrRange},
		{of(0, -605, 0, 1), -959, of(959, -605, 0, 1), api.OK},
		{of(0, -606, 0, 1), 0, api.Tone{}, api.ErrRange},
		{of(960, 960, 960, 1), 0, api.Tone{}, api.ErrRange},
		{of(-960, -960, -960, 1), 0, api.Tone{}, api.ErrRange},
		{of(-573, 237, 85, 1), 0, of(-573, 237, 85, 1), api.OK},
		{of(573, -237, -85, 1), -1, of(574, -237, -85, 1), api.OK},
	} {
		k, x, err := tone.Octave(c.a)
		wantSame(t, "Octave", x, err, c.rest, c.err)
		if k != c.k {
			t.Errorf("Octave(%v): %d, want %d", c.a, k, c.k)
		}
	}
}

func cents(t *testing.T, a api.Tone) int {
	t.Helper()
	n, err := tone.Cents(a)
	if err != api.OK {
		t.Fatalf("Cents(%v): error %d", a, err)
	}
	return n
}

func TestCents(t *testing.T) {
	for _, c := range []struct {
		a    api.Tone
		want int
	}{
		{fifth, 701}, {of(7, 0, 0, 12), 700}, {of(4, -4, 1, 1), -22}, {of(-4, 4, -1, 1), 21}, {of(0, 0, 1, 4), 696},
		{unison, 0}, {octave, 1200}, {of(-1, 0, 0, 1), -1200}, {of(1, 0, 0, 24), 50}, {of(-1, 0, 0, 24), -50}, {of(1, 0, 0, 7), 171}, {of(-1, 0, 0, 7), -172},
		{of(960, 0, 0, 1), 1152000}, {of(-960, 0, 0, 1), -1152000}, {of(959, 0, 0, 24), 47950},
		{of(-573, 237, 85, 1), 0}, {of(573, -237, -85, 1), -1}, {of(-572, 237, 85, 1), 1200}, {of(574, -237, -85, 1), 1199},
		{of(-887, -564, 767, 1), -1}, {of(887, 564, -767, 1), 0},
	} {
		if got := cents(t, c.a); got != c.want {
			t.Errorf("Cents(%v): %d, want %d", c.a, got, c.want)
		}
	}
	r := newRand()
	for range 300 {
		if a := random(r, 30, 24); cents(t, a) != parts(a, 1200) {
			t.Errorf("Cents(%v): %d, want %d", a, cents(t, a), parts(a, 1200))
		}
	}
	for _, a := range []api.Tone{of(960, 960, 960, 1), of(-960, -960, -960, 1), of(960, -960, 959, 23), random(r, 960, 24)} {
		if got, want := cents(t, a), parts(a, 1200); got != want {
			t.Errorf("Cents(%v): %d, want %d", a, got, want)
		}
	}
}

// TestSizes tests T4.
func TestSizes(t *testing.T) {
	r := newRand()
	for range 300 {
		a, b := random(r, 130, 4), random(r, 130, 4)
		m, n, both := cents(t, a), cents(t, b), cents(t, mul(t, a, b))
		if both < m+n || both > m+n+1 {
			t.Errorf("%v has %d cents, %v has %d, together they have %d", a, m, b, n, both)
		}
		if up := cents(t, mul(t, a, octave)); up != m+1200 {
			t.Errorf("%v has %d cents, and an octave higher %d", a, m, up)
		}
		// against compares a with n cents, both to the power 1200*Den.
		against := func(n int) int { return sign(1200*a.Two-n*a.Den, 1200*a.Three, 1200*a.Five) }
		if against(m) < 0 || against(m+1) >= 0 {
			t.Errorf("%v does not have %d cents", a, m)
		}
	}
}
