package nat_test

import (
	"iter"
	"math"
	"math/big"
	"slices"
	"testing"

	"clavecin/api"
	"clavecin/nat"
)

// The signatures are fixed by the document.
var (
	_ func(api.Nat) api.Errno                                   = nat.Check
	_ func(uint64) api.Nat                                      = nat.Of
	_ func(api.Nat) (uint64, api.Errno)                         = nat.Uint64
	_ func(api.Nat) (int, api.Errno)                            = nat.Bits
	_ func(api.Nat, api.Nat) (int, api.Errno)                   = nat.Cmp
	_ func(api.Nat, api.Nat) (api.Nat, api.Errno)               = nat.Add
	_ func(api.Nat, api.Nat) (api.Nat, api.Errno)               = nat.Sub
	_ func(api.Nat, api.Nat) (api.Nat, api.Errno)               = nat.Mul
	_ func(api.Nat, api.Nat) (api.Nat, api.Nat, api.Errno)      = nat.DivMod
	_ func(api.Nat, int) (api.Nat, api.Errno)                   = nat.Shift
	_ func(api.Nat, int) (api.Nat, api.Errno)                   = nat.Pow
	_ func(api.Nat, api.Nat, api.Nat) (api.Nat, api.Errno)      = nat.PowMod
	_ func(api.Nat, int) (api.Nat, api.Errno)                   = nat.Root
	_ func(api.Nat, api.Nat) (api.Nat, api.Errno)               = nat.Gcd
	_ func(api.Nat, api.Nat) (api.Nat, api.Errno)               = nat.Lcm
	_ func(string) (api.Nat, api.Errno)                         = nat.Parse
	_ func(api.Nat) (string, api.Errno)                         = nat.Text
	_ func(api.Nat, uint32) iter.Seq[uint32]                    = nat.Digits
	_ func(a api.Nat, n int, b api.Nat, m int) (int, api.Errno) = nat.Fits
)

func TestCheck(t *testing.T) {
	long := make(api.Nat, api.MaxLimbs+1)
	for _, c := range []struct {
		name string
		x    api.Nat
		want api.Errno
	}{
		{"nil", nil, api.OK},
		{"empty", api.Nat{}, api.OK},
		{"one limb", api.Nat{1}, api.OK},
		{"low limbs 0", api.Nat{0, 0, 1}, api.OK},
		{"MaxLimbs", full(api.MaxLimbs), api.OK},
		{"one limb more", full(api.MaxLimbs + 1), api.ErrLong},
		{"one limb more, the last one 0", long, api.ErrLong},
		{"a limb 0", api.Nat{0}, api.ErrForm},
		{"the last limb 0", api.Nat{1, 0}, api.ErrForm},
		{"MaxLimbs, the last one 0", long[:api.MaxLimbs], api.ErrForm},
	} {
		if got := nat.Check(c.x); got != c.want {
			t.Errorf("%s: %d, want %d", c.name, got, c.want)
		}
	}
}

func TestOfAndUint64(t *testing.T) {
	for _, v := range []uint64{0, 1, 2, math.MaxUint32, math.MaxUint32 + 1, 1 << 63, math.MaxUint64} {
		x := nat.Of(v)
		wantBig(t, "Of", x, api.OK, new(big.Int).SetUint64(v))
		if got, err := nat.Uint64(x); got != v || err != api.OK {
			t.Errorf("Uint64 of %d: %d, error %d", v, got, err)
		}
	}
	for _, x := range []api.Nat{{0, 0, 1}, full(3), full(api.MaxLimbs)} {
		if got, err := nat.Uint64(x); got != 0 || err != api.ErrRange {
			t.Errorf("Uint64 of %s: %d, error %d", brief(x), got, err)
		}
	}
}

func TestBits(t *testing.T) {
	for n := range 200 {
		if got, err := nat.Bits(pow2(n)); got != n+1 || err != api.OK {
			t.Errorf("Bits of 2^%d: %d, error %d", n, got, err)
		}
	}
	for _, c := range []struct {
		x    api.Nat
		want int
	}{{nil, 0}, {api.Nat{}, 0}, {api.Nat{3}, 2}, {api.Nat{0xffffffff}, 32}, {full(5), 160}, {full(api.MaxLimbs), maxBits}} {
		if got, err := nat.Bits(c.x); got != c.want || err != api.OK {
			t.Errorf("Bits of %s: %d, error %d, want %d", brief(c.x), got, err, c.want)
		}
	}
}

func TestCmp(t *testing.T) {
	list := sample(newRand())
	list = append(list, full(api.MaxLimbs), full(api.MaxLimbs))
	list[len(list)-1][0]--
	for _, a := range list {
		for _, b := range list {
			if got, err := nat.Cmp(a, b); got != toBig(a).Cmp(toBig(b)) || err != api.OK {
				t.Fatalf("Cmp of %s and %s: %d, error %d", brief(a), brief(b), got, err)
			}
		}
	}
}

func TestSumsAndDifferences(t *testing.T) {
	list := sample(newRand())
	for _, a := range list {
		for _, b := range list {
			s, err := nat.Add(a, b)
			wantBig(t, "Add", s, err, new(big.Int).Add(toBig(a), toBig(b)))
			d := new(big.Int).Sub(toBig(a), toBig(b))
			got, err := nat.Sub(a, b)
			if d.Sign() < 0 {
				wantErr(t, "Sub", got, err, api.ErrRange)
			} else {
				wantBig(t, "Sub", got, err, d)
			}
		}
	}
}

func TestLongSums(t *testing.T) {
	most := full(api.MaxLimbs)
	s, err := nat.Add(most, nil)
	wantNat(t, "the most and 0", s, err, most)
	s, err = nat.Add(most, api.Nat{1})
	wantErr(t, "the most and 1", s, err, api.ErrLong)
	s, err = nat.Add(most, most)
	wantErr(t, "the most, twice", s, err, api.ErrLong)
	d, err := nat.Sub(most, api.Nat{1})
	if most[0]--; err != api.OK || !slices.Equal(d, most) {
		t.Errorf("the most less 1: error %d", err)
	}
	s, err = nat.Add(d, api.Nat{1})
	wantNat(t, "the most again", s, err, full(api.MaxLimbs))
}

func TestProducts(t *testing.T) {
	list := sample(newRand())
	for _, a := range list {
		for _, b := range list {
			p, err := nat.Mul(a, b)
			wantBig(t, "Mul", p, err, new(big.Int).Mul(toBig(a), toBig(b)))
		}
	}
	p, err := nat.Mul(nat.Of(4294967295), nat.Of(4294967295))
	wantNat(t, "the document's example", p, err, api.Nat{1, 4294967294})
}

func TestLongProducts(t *testing.T) {
	half := maxBits / 2
	p, err := nat.Mul(full(api.MaxLimbs/2), full(api.MaxLimbs/2))
	want := full(api.MaxLimbs)
	want[0] = 1
	clear(want[1 : api.MaxLimbs/2])
	want[api.MaxLimbs/2] = 0xfffffffe
	wantNat(t, "MaxLimbs limbs", p, err, want)
	p, err = nat.Mul(pow2(half), pow2(half-1))
	wantNat(t, "the greatest power of 2", p, err, pow2(maxBits-1))
	p, err = nat.Mul(pow2(half), pow2(half))
	wantErr(t, "one bit more", p, err, api.ErrLong)
	three := pow2(half)
	three[len(three)-2] = 1 << 31
	p, err = nat.Mul(three, three[1:])
	if n, _ := nat.Bits(p); err != api.OK || n != maxBits-30 {
		t.Errorf("a product of %d bits, error %d", n, err)
	}
	a, _ := nat.Shift(nat.Of(3), half-1)
	b, _ := nat.Shift(nat.Of(3), half-2)
	p, err = nat.Mul(a, b)
	wantErr(t, "one bit more by a carry", p, err, api.ErrLong)
	p, err = nat.Mul(full(api.MaxLimbs), full(api.MaxLimbs))
	wantErr(t, "twice as many limbs", p, err, api.ErrLong)
	p, err = nat.Mul(full(api.MaxLimbs), nil)
	wantNat(t, "the most times 0", p, err, nil)
	p, err = nat.Mul(api.Nat{1}, full(api.MaxLimbs))
	wantNat(t, "the most times 1", p, err, full(api.MaxLimbs))
	p, err = nat.Mul(api.Nat{2}, full(api.MaxLimbs))
	wantErr(t, "the most times 2", p, err, api.ErrLong)
}

// TestRing tests N1.
func TestRing(t *testing.T) {
	r := newRand()
	for range 300 {
		a, b, c := random(r, r.Intn(500)), random(r, r.Intn(500)), random(r, r.Intn(500))
		ab, _ := nat.Add(a, b)
		ba, err := nat.Add(b, a)
		wantNat(t, "a+b = b+a", ba, err, ab)
		bc, _ := nat.Add(b, c)
		x, _ := nat.Add(ab, c)
		y, err := nat.Add(a, bc)
		wantNat(t, "(a+b)+c = a+(b+c)", y, err, x)
		back, err := nat.Sub(ab, b)
		wantNat(t, "(a+b)-b = a", back, err, a)
		p, _ := nat.Mul(a, b)
		q, err := nat.Mul(b, a)
		wantNat(t, "a·b = b·a", q, err, p)
		pc, _ := nat.Mul(p, c)
		q, _ = nat.Mul(b, c)
		aq, err := nat.Mul(a, q)
		wantNat(t, "(a·b)·c = a·(b·c)", aq, err, pc)
		s, _ := nat.Mul(a, bc)
		ac, _ := nat.Mul(a, c)
		u, err := nat.Add(p, ac)
		wantNat(t, "a·(b+c) = a·b + a·c", u, err, s)
	}
}

func TestShift(t *testing.T) {
	for _, a := range sample(newRand()) {
		for _, n := range []int{0, 1, 31, 32, 33, 63, 64, 65, 1000} {
			x, err := nat.Shift(a, n)
			wantBig(t, "Shift up", x, err, new(big.Int).Lsh(toBig(a), uint(n)))
			x, err = nat.Shift(a, -n)
			wantBig(t, "Shift down", x, err, new(big.Int).Rsh(toBig(a), uint(n)))
		}
	}
	for _, c := range []struct {
		name string
		a    api.Nat
		n    int
		want api.Nat
	}{
		{"5 by -1", nat.Of(5), -1, nat.Of(2)},
		{"5 by -3", nat.Of(5), -3, nil},
		{"to the last bit", nat.Of(1), maxBits - 1, pow2(maxBits - 1)},
		{"from the last bit", pow2(maxBits - 1), 1 - maxBits, nat.Of(1)},
		{"all bits away", full(api.MaxLimbs), -maxBits, nil},
		{"the least n", full(api.MaxLimbs), math.MinInt, nil},
		{"the least n but one", nat.Of(1), math.MinInt + 1, nil},
		{"0 by the greatest n", nil, math.MaxInt, nil},
		{"0 by the least n", nil, math.MinInt, nil},
	} {
		x, err := nat.Shift(c.a, c.n)
		wantNat(t, c.name, x, err, c.want)
	}
	for _, c := range []struct {
		name string
		a    api.Nat
		n    int
	}{
		{"1 too far", nat.Of(1), maxBits},
		{"3 too far", nat.Of(3), maxBits - 1},
		{"the most by 1", full(api.MaxLimbs), 1},
		{"the greatest n", nat.Of(1), math.MaxInt},
	} {
		x, err := nat.Shift(c.a, c.n)
		wantErr(t, c.name, x, err, api.ErrLong)
	}
}
