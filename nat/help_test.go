package nat_test

import (
	"math/big"
	"math/rand"
	"slices"
	"testing"

	"clavecin/api"
	"clavecin/nat"
)

// maxBits is how many binary digits the longest Nat has.
const maxBits = 32 * api.MaxLimbs

// toBig returns a Nat as a number of the library, against which the package is tested.
func toBig(x api.Nat) *big.Int {
	bytes := make([]byte, 0, 4*len(x))
	for _, limb := range slices.Backward(x) {
		bytes = append(bytes, byte(limb>>24), byte(limb>>16), byte(limb>>8), byte(limb))
	}
	return new(big.Int).SetBytes(bytes)
}

func fromBig(b *big.Int) api.Nat {
	bytes := b.Bytes()
	slices.Reverse(bytes)
	x := make(api.Nat, (len(bytes)+3)/4)
	for i, v := range bytes {
		x[i/4] |= uint32(v) << (i % 4 * 8)
	}
	return x
}

// random returns a number of so many limbs. Half of them are long runs of equal bits, with which carries go far
// and quotients are nearly estimated wrongly.
func random(r *rand.Rand, limbs int) api.Nat {
	x := make(api.Nat, limbs)
	if r.Intn(2) == 0 {
		for i := range x {
			x[i] = r.Uint32()
		}
	} else {
		for i := 0; i < 32*limbs; {
			run, bit := 1+r.Intn(1+r.Intn(200)), r.Uint32()&1
			for end := min(i+run, 32*limbs); i < end; i++ {
				x[i/32] |= bit << (i % 32)
			}
		}
	}
	if limbs > 0 && x[limbs-1] == 0 {
		x[limbs-1] = 1
	}
	return x
}

// sample returns numbers with which every way through the package is taken: short ones, and such on both sides
// of the lengths at which another method is used.
func sample(r *rand.Rand) []api.Nat {
	list := []api.Nat{nil, {1}, {2}, {3}, {0xffffffff}, {0, 1}, {0xffffffff, 0xffffffff}, {0, 0, 1}, {0xffffffff, 0xffffffff, 0xffffffff}}
	for _, limbs := range []int{1, 2, 3, 4, 5, 7, 30, 100, 158, 161, 300, 399, 401, 450, 700, 801, 1300, 2000} {
		list = append(list, random(r, limbs), random(r, limbs))
	}
	return list
}

func newRand() *rand.Rand { return rand.New(rand.NewSource(1)) }

// full returns the number of so many limbs all of whose bits are 1.
func full(limbs int) api.Nat { return slices.Repeat(api.Nat{0xffffffff}, limbs) }

// pow2 returns 2^n.
func pow2(n int) api.Nat {
	x := make(api.Nat, n/32+1)
	x[n/32] = 1 << (n % 32)
	return x
}

func wantNat(t *testing.T, name string, got api.Nat, err api.Errno, want api.Nat) {
	t.Helper()
	if err != api.OK || !slices.Equal(got, want) {
		t.Fatalf("%s: %s, error %d, want %s", name, brief(got), err, brief(want))
	}
	if nat.Check(got) != api.OK {
		t.Fatalf("%s: the result is not valid", name)
	}
}

func wantBig(t *testing.T, name string, got api.Nat, err api.Errno, want *big.Int) {
	t.Helper()
	wantNat(t, name, got, err, fromBig(want))
}

// wantErr tests an error, and that nothing else is returned.
func wantErr(t *testing.T, name string, got api.Nat, err, want api.Errno) {
	t.Helper()
	if err != want || len(got) != 0 {
		t.Fatalf("%s: %s, error %d, want error %d", name, brief(got), err, want)
	}
}

func brief(x api.Nat) string {
	if len(x) > 40 {
		return "a long number"
	}
	return toBig(x).String()
}
