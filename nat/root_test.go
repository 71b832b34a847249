package nat_test

import (
	"math"
	"math/big"
	"testing"

	"clavecin/api"
	"clavecin/nat"
)

func TestPow(t *testing.T) {
	r := newRand()
	for n := range 70 {
		for _, a := range []api.Nat{nil, {1}, {2}, {3}, {10}, random(r, 1), random(r, 2), random(r, 9)} {
			x, err := nat.Pow(a, n)
			wantBig(t, "Pow", x, err, new(big.Int).Exp(toBig(a), big.NewInt(int64(n)), nil))
		}
	}
	most := full(api.MaxLimbs)
	for _, c := range []struct {
		name string
		a    api.Nat
		n    int
		want api.Nat
	}{
		{"0^0", nil, 0, nat.Of(1)},
		{"the most to the 0", most, 0, nat.Of(1)},
		{"the most to the 1", most, 1, most},
		{"0 to the greatest n", nil, math.MaxInt, nil},
		{"1 to the greatest n", nat.Of(1), math.MaxInt, nat.Of(1)},
		{"the greatest power of 2", nat.Of(2), maxBits - 1, pow2(maxBits - 1)},
		{"a power of 2^32", pow2(32), api.MaxLimbs - 1, pow2(maxBits - 32)},
	} {
		x, err := nat.Pow(c.a, c.n)
		wantNat(t, c.name, x, err, c.want)
	}
	for _, c := range []struct {
		name string
		a    api.Nat
		n    int
		want api.Errno
	}{
		{"n below 0", nat.Of(2), -1, api.ErrArg},
		{"the least n, of 0", nil, math.MinInt, api.ErrArg},
		{"2 too often", nat.Of(2), maxBits, api.ErrLong},
		{"2 to the greatest n", nat.Of(2), math.MaxInt, api.ErrLong},
		{"3 to the greatest n", nat.Of(3), math.MaxInt, api.ErrLong},
		{"the most squared", most, 2, api.ErrLong},
		{"the most to the greatest n", most, math.MaxInt, api.ErrLong},
		{"2^32 too often", pow2(32), api.MaxLimbs, api.ErrLong},
	} {
		x, err := nat.Pow(c.a, c.n)
		wantErr(t, c.name, x, err, c.want)
	}
}

// TestLongestPow: 3^n has maxBits binary digits at most exactly if n is at most that divided by log2(3).
func TestLongestPow(t *testing.T) {
	n := int(maxBits / math.Log2(3))
	x, err := nat.Pow(nat.Of(3), n)
	if size, _ := nat.Bits(x); err != api.OK || size != maxBits {
		t.Errorf("3^%d: %d bits, error %d", n, size, err)
	}
	x, err = nat.Pow(nat.Of(3), n+1)
	wantErr(t, "once more", x, err, api.ErrLong)
}

// TestRoot tests N3.
func TestRoot(t *testing.T) {
	r := newRand()
	list := sample(r)
	for v := range uint64(300) {
		list = append(list, nat.Of(v))
	}
	for range 200 {
		list = append(list, random(r, 1+r.Intn(20)))
	}
	for _, a := range list {
		for _, n := range []int{1, 2, 3, 4, 5, 7, 12, 31, 64, 100, 1000, 5000, 70000} {
			testRoot(t, a, n)
		}
	}
}

// testRoot tests that r^n <= a < (r+1)^n.
func testRoot(t *testing.T, a api.Nat, n int) {
	t.Helper()
	r, err := nat.Root(a, n)
	if err != api.OK || nat.Check(r) != api.OK {
		t.Fatalf("Root(%s, %d): error %d", brief(a), n, err)
	}
	if c, err := nat.Fits(r, n, a, 1); err != api.OK || c > 0 {
		t.Fatalf("Root(%s, %d) is too great", brief(a), n)
	}
	next, _ := nat.Add(r, nat.Of(1))
	if c, err := nat.Fits(next, n, a, 1); err != api.OK || c <= 0 {
		t.Fatalf("Root(%s, %d) is too small", brief(a), n)
	}
}

// TestRootOfPowers takes the roots of powers, and of the numbers just beside them.
func TestRootOfPowers(t *testing.T) {
	r := newRand()
	for range 500 {
		n := 2 + r.Intn(40)
		base := random(r, 1+r.Intn(12))
		if toBig(base).Cmp(big.NewInt(1)) == 0 {
			continue
		}
		p, _ := nat.Pow(base, n)
		x, err := nat.Root(p, n)
		wantNat(t, "of a power", x, err, base)
		above, _ := nat.Add(p, nat.Of(1))
		x, err = nat.Root(above, n)
		wantNat(t, "of a power and 1", x, err, base)
		below, _ := nat.Sub(p, nat.Of(1))
		less, _ := nat.Sub(base, nat.Of(1))
		x, err = nat.Root(below, n)
		wantNat(t, "of a power less 1", x, err, less)
	}
}

func TestRootEdges(t *testing.T) {
	most := full(api.MaxLimbs)
	for _, c := range []struct {
		name string
		a    api.Nat
		n    int
		want api.Nat
	}{
		{"26", nat.Of(26), 3, nat.Of(2)},
		{"27", nat.Of(27), 3, nat.Of(3)},
		{"5", nat.Of(5), 1, nat.Of(5)},
		{"0", nil, 1, nil},
		{"0, the greatest n", nil, math.MaxInt, nil},
		{"1, the greatest n", nat.Of(1), math.MaxInt, nat.Of(1)},
		{"the first root of the most", most, 1, most},
		{"the square root of the most", most, 2, full(api.MaxLimbs / 2)},
		{"the most, all bits but one", most, maxBits - 1, nat.Of(2)},
		{"the most, all bits", most, maxBits, nat.Of(1)},
		{"the most, the greatest n", most, math.MaxInt, nat.Of(1)},
		{"a long power of 256", pow2(80000), 10000, nat.Of(256)},
	} {
		x, err := nat.Root(c.a, c.n)
		wantNat(t, c.name, x, err, c.want)
	}
	for _, n := range []int{0, -1, math.MinInt} {
		x, err := nat.Root(nil, n)
		wantErr(t, "n below 1", x, err, api.ErrArg)
	}
}

// TestFits tests P1 as far as numbers go: powers that differ by little are told apart.
func TestFits(t *testing.T) {
	r := newRand()
	for range 500 {
		a, b, n, m := random(r, r.Intn(4)), random(r, r.Intn(4)), r.Intn(30), r.Intn(30)
		x := new(big.Int).Exp(toBig(a), big.NewInt(int64(n)), nil)
		y := new(big.Int).Exp(toBig(b), big.NewInt(int64(m)), nil)
		if got, err := nat.Fits(a, n, b, m); got != x.Cmp(y) || err != api.OK {
			t.Fatalf("Fits(%s, %d, %s, %d): %d, error %d", brief(a), n, brief(b), m, got, err)
		}
	}
	huge, _ := nat.Pow(nat.Of(3), 5000)
	above, _ := nat.Add(huge, nat.Of(1))
	below, _ := nat.Sub(huge, nat.Of(1))
	for _, c := range []struct {
		name string
		a    api.Nat
		n    int
		b    api.Nat
		m    int
		want int
	}{
		{"2^10 and 10^3", nat.Of(2), 10, nat.Of(10), 3, 1},
		{"3^12 and 2^19", nat.Of(3), 12, nat.Of(2), 19, 1},
		{"equal powers", nat.Of(8), 20, nat.Of(4), 30, 0},
		{"equal long powers", nat.Of(9), 2500, huge, 1, 0},
		{"1 above", nat.Of(9), 2500, above, 1, -1},
		{"1 below", nat.Of(9), 2500, below, 1, 1},
		{"0^0 and 1", nil, 0, nat.Of(1), math.MaxInt, 0},
		{"0 and 0^0", nil, math.MaxInt, nil, 0, -1},
		{"the longest ones", nat.Of(2), maxBits - 1, full(api.MaxLimbs), 1, -1},
	} {
		if got, err := nat.Fits(c.a, c.n, c.b, c.m); got != c.want || err != api.OK {
			t.Errorf("%s: %d, error %d, want %d", c.name, got, err, c.want)
		}
	}
}

func TestFitsErrors(t *testing.T) {
	two, bad, long := nat.Of(2), api.Nat{0}, make(api.Nat, api.MaxLimbs+1)
	for _, c := range []struct {
		name string
		a    api.Nat
		n    int
		b    api.Nat
		m    int
		want api.Errno
	}{
		{"a malformed", bad, -1, long, -1, api.ErrForm},
		{"a too long", long, -1, bad, -1, api.ErrLong},
		{"b malformed", two, -1, bad, -1, api.ErrForm},
		{"n below 0", two, -1, two, 1, api.ErrArg},
		{"m below 0", two, 1, two, -1, api.ErrArg},
		{"m below 0 and a^n too long", two, math.MaxInt, two, math.MinInt, api.ErrArg},
		{"a^n too long", two, maxBits, two, 1, api.ErrLong},
		{"b^m too long", two, 1, two, maxBits, api.ErrLong},
		{"b^m much too long", nil, 0, nat.Of(3), math.MaxInt, api.ErrLong},
	} {
		if got, err := nat.Fits(c.a, c.n, c.b, c.m); got != 0 || err != c.want {
			t.Errorf("%s: %d, error %d, want error %d", c.name, got, err, c.want)
		}
	}
}
