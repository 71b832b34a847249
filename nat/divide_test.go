package nat_test

import (
	"math/big"
	"slices"
	"testing"

	"clavecin/api"
	"clavecin/nat"
)

// TestDivMod tests N2.
func TestDivMod(t *testing.T) {
	list := sample(newRand())
	for _, a := range list {
		for _, b := range list {
			q, r, err := nat.DivMod(a, b)
			if len(b) == 0 {
				wantErr(t, "the quotient by 0", q, err, api.ErrZero)
				wantErr(t, "the remainder by 0", r, err, api.ErrZero)
				continue
			}
			quo, rem := new(big.Int).QuoRem(toBig(a), toBig(b), new(big.Int))
			wantBig(t, "the quotient", q, err, quo)
			wantBig(t, "the remainder", r, err, rem)
		}
	}
}

// TestDivModBack divides numbers that are nearly multiples, whose quotients are estimated wrongly most easily.
func TestDivModBack(t *testing.T) {
	r := newRand()
	for range 2000 {
		limbs := 1 + r.Intn(30)
		if r.Intn(20) == 0 {
			limbs = 400 + r.Intn(1500)
		}
		b, q := random(r, limbs), random(r, r.Intn(2*limbs))
		p, _ := nat.Mul(b, q)
		rem, _ := nat.Sub(b, api.Nat{1})
		if r.Intn(2) == 0 {
			_, rem, _ = nat.DivMod(random(r, limbs), b)
		}
		a, _ := nat.Add(p, rem)
		gotQ, gotR, err := nat.DivMod(a, b)
		wantNat(t, "the quotient", gotQ, err, q)
		wantNat(t, "the remainder", gotR, err, rem)
	}
}

func TestLongDivMod(t *testing.T) {
	// 2^(2n) - 1 is (2^n + 1)·(2^n - 1).
	n := maxBits / 2
	b := pow2(n)
	b[0] = 1
	q, r, err := nat.DivMod(full(api.MaxLimbs), b)
	wantNat(t, "the quotient", q, err, full(api.MaxLimbs/2))
	wantNat(t, "the remainder", r, err, nil)
	q, r, err = nat.DivMod(full(api.MaxLimbs), full(api.MaxLimbs))
	wantNat(t, "by itself", q, err, api.Nat{1})
	wantNat(t, "no remainder", r, err, nil)
	q, r, err = nat.DivMod(full(api.MaxLimbs), api.Nat{1})
	wantNat(t, "by 1", q, err, full(api.MaxLimbs))
	wantNat(t, "no remainder", r, err, nil)
	q, r, err = nat.DivMod(full(api.MaxLimbs), api.Nat{0, 0, 1})
	wantNat(t, "by 2^64", q, err, full(api.MaxLimbs-2))
	wantNat(t, "two limbs remain", r, err, full(2))
	q, r, err = nat.DivMod(nat.Of(5), full(api.MaxLimbs))
	wantNat(t, "by a greater one", q, err, nil)
	wantNat(t, "all of it remains", r, err, nat.Of(5))
}

// TestGcdLcm tests N5.
func TestGcdLcm(t *testing.T) {
	r := newRand()
	list := sample(r)
	for _, a := range list {
		for _, b := range list {
			testGcdLcm(t, a, b)
		}
	}
	for range 300 {
		a, b, c := random(r, r.Intn(60)), random(r, r.Intn(60)), random(r, 1+r.Intn(60))
		x, _ := nat.Mul(a, c)
		y, _ := nat.Mul(b, c)
		testGcdLcm(t, x, y)
		g, _ := nat.Gcd(x, y)
		_, rest, err := nat.DivMod(g, c)
		if len(g) > 0 {
			wantNat(t, "a common divisor divides the greatest one", rest, err, nil)
		}
	}
}

func testGcdLcm(t *testing.T, a, b api.Nat) {
	t.Helper()
	g, err := nat.Gcd(a, b)
	wantBig(t, "Gcd", g, err, new(big.Int).GCD(nil, nil, toBig(a), toBig(b)))
	l, err := nat.Lcm(a, b)
	if len(a) == 0 || len(b) == 0 {
		wantNat(t, "Lcm with 0", l, err, nil)
		return
	}
	p, _ := nat.Mul(a, b)
	gl, err := nat.Mul(g, l)
	wantNat(t, "Gcd·Lcm = a·b", gl, err, p)
	for _, x := range []api.Nat{a, b} {
		_, rest, err := nat.DivMod(x, g)
		wantNat(t, "Gcd divides", rest, err, nil)
		_, rest, err = nat.DivMod(l, x)
		wantNat(t, "Lcm is a multiple", rest, err, nil)
	}
}

// TestFibonacci: neighbours among the numbers of Fibonacci need the most steps.
func TestFibonacci(t *testing.T) {
	a, b := nat.Of(0), nat.Of(1)
	for range 3000 {
		c, _ := nat.Add(a, b)
		a, b = b, c
	}
	g, err := nat.Gcd(a, b)
	wantNat(t, "Gcd", g, err, nat.Of(1))
	g, err = nat.Gcd(b, a)
	wantNat(t, "Gcd", g, err, nat.Of(1))
}

func TestLongGcdLcm(t *testing.T) {
	most, top := full(api.MaxLimbs), pow2(maxBits-1)
	for _, c := range []struct {
		name    string
		a, b, g api.Nat
	}{
		{"with 0", most, nil, most},
		{"0 with it", nil, most, most},
		{"0 and 0", nil, nil, nil},
		{"with 1", most, nat.Of(1), nat.Of(1)},
		{"with itself", most, most, most},
		{"with a power of 2", most, top, nat.Of(1)},
		{"a third of its limbs", most, full(api.MaxLimbs / 2), full(api.MaxLimbs / 2)},
	} {
		g, err := nat.Gcd(c.a, c.b)
		wantNat(t, c.name, g, err, c.g)
	}
	l, err := nat.Lcm(top, pow2(maxBits-2))
	wantNat(t, "powers of 2", l, err, top)
	l, err = nat.Lcm(most, most)
	wantNat(t, "the most twice", l, err, most)
	l, err = nat.Lcm(top, nat.Of(3))
	wantErr(t, "too long", l, err, api.ErrLong)
	l, err = nat.Lcm(most, top)
	wantErr(t, "twice too long", l, err, api.ErrLong)
	l, err = nat.Lcm(most, nil)
	wantNat(t, "0", l, err, nil)
}

func TestPowMod(t *testing.T) {
	r := newRand()
	for range 300 {
		a, e, m := random(r, r.Intn(6)), random(r, r.Intn(4)), random(r, 1+r.Intn(5))
		x, err := nat.PowMod(a, e, m)
		wantBig(t, "PowMod", x, err, new(big.Int).Exp(toBig(a), toBig(e), toBig(m)))
	}
	a, e, m := random(r, 300), random(r, 2), random(r, 250)
	x, err := nat.PowMod(a, e, m)
	wantBig(t, "a long PowMod", x, err, new(big.Int).Exp(toBig(a), toBig(e), toBig(m)))
	one, most := nat.Of(1), full(api.MaxLimbs)
	for _, c := range []struct {
		name          string
		a, e, m, want api.Nat
	}{
		{"3^4 by 5", nat.Of(3), nat.Of(4), nat.Of(5), one},
		{"a^0", nat.Of(3), nil, nat.Of(5), one},
		{"0^0", nil, nil, nat.Of(5), one},
		{"0^0 by 1", nil, nil, one, nil},
		{"a^e by 1", nat.Of(7), nat.Of(7), one, nil},
		{"0^e", nil, nat.Of(3), nat.Of(5), nil},
		{"1 to the most", one, most, nat.Of(7), one},
		{"the most to the 1", most, one, most, nil},
		{"the most squared", full(api.MaxLimbs / 2), nat.Of(2), pow2(maxBits / 2), one},
	} {
		x, err := nat.PowMod(c.a, c.e, c.m)
		wantNat(t, c.name, x, err, c.want)
	}
	x, err = nat.PowMod(one, one, nil)
	wantErr(t, "by 0", x, err, api.ErrZero)
	x, err = nat.PowMod(nil, nil, api.Nat{})
	wantErr(t, "0^0 by 0", x, err, api.ErrZero)
	if slices.Contains(most, 0) {
		t.Error("an argument was changed")
	}
}
