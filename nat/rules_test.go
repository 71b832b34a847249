package nat_test

import (
	"math"
	"slices"
	"testing"

	"clavecin/api"
	"clavecin/nat"
)

// call is a function with the numbers that it is given, and what it returns for them as numbers.
type call struct {
	name string
	args int
	do   func(x []api.Nat) ([]api.Nat, api.Errno)
}

func one(x api.Nat, err api.Errno) ([]api.Nat, api.Errno) { return []api.Nat{x}, err }

func calls() []call {
	count := func(n int, err api.Errno) ([]api.Nat, api.Errno) { return one(nat.Of(uint64(n)), err) }
	return []call{
		{"Uint64", 1, func(x []api.Nat) ([]api.Nat, api.Errno) {
			v, err := nat.Uint64(x[0])
			return one(nat.Of(v), err)
		}},
		{"Bits", 1, func(x []api.Nat) ([]api.Nat, api.Errno) { return count(nat.Bits(x[0])) }},
		{"Cmp", 2, func(x []api.Nat) ([]api.Nat, api.Errno) {
			c, err := nat.Cmp(x[0], x[1])
			return count(c&3, err)
		}},
		{"Add", 2, func(x []api.Nat) ([]api.Nat, api.Errno) { return one(nat.Add(x[0], x[1])) }},
		{"Sub", 2, func(x []api.Nat) ([]api.Nat, api.Errno) { return one(nat.Sub(x[0], x[1])) }},
		{"Mul", 2, func(x []api.Nat) ([]api.Nat, api.Errno) { return one(nat.Mul(x[0], x[1])) }},
		{"DivMod", 2, func(x []api.Nat) ([]api.Nat, api.Errno) {
			q, r, err := nat.DivMod(x[0], x[1])
			return []api.Nat{q, r}, err
		}},
		{"Shift", 1, func(x []api.Nat) ([]api.Nat, api.Errno) { return one(nat.Shift(x[0], 0)) }},
		{"Shift far", 1, func(x []api.Nat) ([]api.Nat, api.Errno) { return one(nat.Shift(x[0], math.MaxInt)) }},
		{"Pow", 1, func(x []api.Nat) ([]api.Nat, api.Errno) { return one(nat.Pow(x[0], 1)) }},
		{"Pow below 0", 1, func(x []api.Nat) ([]api.Nat, api.Errno) { return one(nat.Pow(x[0], -1)) }},
		{"PowMod", 3, func(x []api.Nat) ([]api.Nat, api.Errno) { return one(nat.PowMod(x[0], x[1], x[2])) }},
		{"Root", 1, func(x []api.Nat) ([]api.Nat, api.Errno) { return one(nat.Root(x[0], 1)) }},
		{"Root below 1", 1, func(x []api.Nat) ([]api.Nat, api.Errno) { return one(nat.Root(x[0], 0)) }},
		{"Gcd", 2, func(x []api.Nat) ([]api.Nat, api.Errno) { return one(nat.Gcd(x[0], x[1])) }},
		{"Lcm", 2, func(x []api.Nat) ([]api.Nat, api.Errno) { return one(nat.Lcm(x[0], x[1])) }},
		{"Text", 1, func(x []api.Nat) ([]api.Nat, api.Errno) {
			s, err := nat.Text(x[0])
			return count(len(s), err)
		}},
		{"Fits", 2, func(x []api.Nat) ([]api.Nat, api.Errno) {
			c, err := nat.Fits(x[0], 1, x[1], 1)
			return count(c&3, err)
		}},
		{"Fits below 0", 2, func(x []api.Nat) ([]api.Nat, api.Errno) {
			c, err := nat.Fits(x[0], -1, x[1], -1)
			return count(c&3, err)
		}},
	}
}

// TestInvalid gives every function every row of valid and invalid numbers: the first invalid one from the left
// says which error there is (R2), it is the only result (R3), and nothing panics (R1).
func TestInvalid(t *testing.T) {
	kinds := []struct {
		x   api.Nat
		err api.Errno
	}{
		{nil, api.OK}, {api.Nat{6}, api.OK},
		{api.Nat{0}, api.ErrForm}, {api.Nat{7, 0}, api.ErrForm},
		{make(api.Nat, api.MaxLimbs+1), api.ErrLong}, {full(api.MaxLimbs + 1), api.ErrLong},
	}
	for _, c := range calls() {
		rows := 1
		for range c.args {
			rows *= len(kinds)
		}
		for row := range rows {
			list, want := make([]api.Nat, c.args), api.OK
			for i := range list {
				k := kinds[row%len(kinds)]
				row /= len(kinds)
				list[i] = k.x
				if want == api.OK {
					want = k.err
				}
			}
			got, err := c.do(list)
			if want != api.OK && err != want {
				t.Errorf("%s: error %d, want %d", c.name, err, want)
			}
			if err != api.OK && !allEmpty(got) {
				t.Errorf("%s: a result beside error %d", c.name, err)
			}
		}
	}
}

func allEmpty(list []api.Nat) bool {
	return !slices.ContainsFunc(list, func(x api.Nat) bool { return len(x) > 0 })
}

// TestMemory tests R5 with numbers for which a function could return what it was given: changing the results
// does not change the arguments, changing those does not change the results, and two results are apart.
func TestMemory(t *testing.T) {
	for _, c := range calls() {
		for _, first := range []api.Nat{nil, {1}, {6}, {6, 1}, full(3), random(newRand(), 500)} {
			for _, other := range []api.Nat{nil, {1}, {6}, {6, 1}, full(3), full(500)} {
				list := []api.Nat{first, other}
				if c.args == 3 {
					list = []api.Nat{first, {1}, other}
				}
				testMemory(t, c, list[:c.args])
			}
		}
	}
}

func testMemory(t *testing.T, c call, list []api.Nat) {
	t.Helper()
	args, kept := copies(list), copies(list)
	got, err := c.do(args)
	want := copies(got)
	spoil(got)
	if !equal(args, kept) {
		t.Fatalf("%s: its arguments change", c.name)
	}
	got, again := c.do(args)
	spoil(args)
	if err != again || !equal(got, want) {
		t.Fatalf("%s: its results change", c.name)
	}
	for i := range got {
		spoil(got[i : i+1])
		if !equal(got[i+1:], want[i+1:]) {
			t.Fatalf("%s: its results share memory", c.name)
		}
	}
}

func copies(list []api.Nat) []api.Nat {
	var c []api.Nat
	for _, x := range list {
		c = append(c, slices.Clone(x))
	}
	return c
}

// spoil writes into all memory of the numbers, that beyond their lengths as well.
func spoil(list []api.Nat) {
	for _, x := range list {
		x = x[:cap(x)]
		for i := range x {
			x[i] ^= 0xa5a5a5a5
		}
	}
}

func equal(a, b []api.Nat) bool {
	return slices.EqualFunc(a, b, func(x, y api.Nat) bool { return slices.Equal(x, y) })
}

// TestEmpty tests R4.
func TestEmpty(t *testing.T) {
	for _, c := range calls() {
		for _, other := range []api.Nat{nil, {5}} {
			a, errA := c.do([]api.Nat{nil, other, other}[:c.args])
			b, errB := c.do([]api.Nat{{}, other, other}[:c.args])
			if errA != errB || !equal(a, b) {
				t.Errorf("%s: nil and empty differ", c.name)
			}
			a, errA = c.do([]api.Nat{other, nil, nil}[:c.args])
			b, errB = c.do([]api.Nat{other, {}, {}}[:c.args])
			if errA != errB || !equal(a, b) {
				t.Errorf("%s: nil and empty differ", c.name)
			}
		}
	}
}

// TestCapacity tests R6: what lies beyond a number's length has no effect.
func TestCapacity(t *testing.T) {
	for _, c := range calls() {
		list, room := []api.Nat{{5, 9}, {7}, {11}}[:c.args], make([]api.Nat, c.args)
		for i, x := range list {
			room[i] = append(slices.Clone(x), 77, 78, 79)[:len(x)]
		}
		a, errA := c.do(list)
		b, errB := c.do(room)
		if errA != errB || !equal(a, b) {
			t.Errorf("%s: the capacity has an effect", c.name)
		}
	}
}
