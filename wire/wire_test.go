package wire_test

import (
	"math"
	"testing"

	"clavecin/api"
	"clavecin/wire"
)

func TestTensionAndStress(t *testing.T) {
	for _, c := range []struct{ density, diameter, length, freq, tension int }{
		{7800, 300, 3000, 440000, 38426},
		{1, 1, 1, 1, 0},
		{30000, 2000, 100000, 10000000, 3769911504424},
		{30000, 1, 1, 10000000, 0},
	} {
		n, err := wire.Tension(c.density, c.diameter, c.length, c.freq)
		wantInt(t, "Tension", n, err, c.tension, api.OK)
	}
	for _, c := range []struct{ density, length, freq, stress int }{
		{7800, 3000, 440000, 543},
		{1, 1, 1, 0},
		{30000, 100000, 10000000, 1200000000},
		{25, 100000, 100000, 100}, // exactly 10^20 times 100
		{1, 50000, 100000, 1},     // exactly 10^20
		{1, 49999, 100000, 0},
	} {
		n, err := wire.Stress(c.density, c.length, c.freq)
		wantInt(t, "Stress", n, err, c.stress, api.OK)
	}
}

// TestFormulas compares with package math/big, over all the ranges.
func TestFormulas(t *testing.T) {
	r := newRand()
	upTo := func(most int) int { return between(r, 1, []int{3, 100, most}[r.Intn(3)]) }
	for range 20000 {
		density, diameter, length, freq := upTo(30000), upTo(2000), upTo(100000), upTo(10000000)
		n, err := wire.Tension(density, diameter, length, freq)
		wantInt(t, "Tension", n, err, tension(density, diameter, length, freq), api.OK)
		stress := bigProduct(4, density, length, length, freq, freq)
		n, err = wire.Stress(density, length, freq)
		wantInt(t, "Stress", n, err, int(stress.Div(stress, tenTo(20)).Int64()), api.OK)
		strength, safety := upTo(100000), upTo(100)
		ok, err := wire.Holds(density, strength, length, freq, safety)
		if ok != holds(density, strength, length, freq, safety) || err != api.OK {
			t.Fatalf("Holds(%d, %d, %d, %d, %d): %t, error %d", density, strength, length, freq, safety, ok, err)
		}
	}
}

func TestHolds(t *testing.T) {
	for _, c := range []struct {
		density, strength, length, freq, safety int
		want                                    bool
	}{
		{7800, 543, 3000, 440000, 100, false}, // the rounded stress is 543, the exact one is above it
		{7800, 544, 3000, 440000, 100, true},
		{1, 40000, 100000, 10000000, 100, true}, // equal
		{1, 39999, 100000, 10000000, 100, false},
		{1, 40000, 100000, 10000000, 99, false},
		{2, 40000, 100000, 10000000, 100, false},
		{1, 40000, 99999, 9999999, 100, true},
		{1, 1, 1, 1, 1, true},
		{30000, 1, 1, 10000000, 1, false},
		{30000, 100000, 100000, 10000000, 100, false},
	} {
		ok, err := wire.Holds(c.density, c.strength, c.length, c.freq, c.safety)
		if ok != c.want || err != api.OK {
			t.Errorf("Holds(%d, %d, %d, %d, %d): %t, error %d", c.density, c.strength, c.length, c.freq, c.safety, ok, err)
		}
	}
}

func TestLongest(t *testing.T) {
	for _, c := range []struct {
		density, strength, freq, safety, want int
		err                                   api.Errno
	}{
		{7800, 544, 440000, 100, 3001, api.OK},
		{7800, 543, 440000, 100, 2998, api.OK},
		{1, 40000, 10000000, 100, 100000, api.OK}, // exactly
		{1, 39999, 10000000, 100, 99998, api.OK},
		{1, 100000, 1, 100, 100000, api.OK}, // more would hold, but not in range
		{2500, 1, 10000000, 1, 1, api.OK},   // exactly
		{2501, 1, 10000000, 1, 0, api.ErrNone},
		{30000, 1, 10000000, 1, 0, api.ErrNone},
	} {
		n, err := wire.Longest(c.density, c.strength, c.freq, c.safety)
		wantInt(t, "Longest", n, err, c.want, c.err)
	}
}

// TestLongestHolds is the second half of promise W1.
func TestLongestHolds(t *testing.T) {
	r := newRand()
	for range 5000 {
		density, strength, freq, safety := between(r, 1, 30000), between(r, 1, []int{10, 100000}[r.Intn(2)]), between(r, 1, []int{100, 1000000, 10000000}[r.Intn(3)]), between(r, 1, 100)
		longest, err := wire.Longest(density, strength, freq, safety)
		if longest == 0 && err != api.ErrNone || longest > 0 && err != api.OK || longest < 0 || longest > 100000 {
			t.Fatalf("Longest(%d, %d, %d, %d): %d, error %d", density, strength, freq, safety, longest, err)
		}
		for _, length := range []int{1, longest / 2, longest - 1, longest, longest + 1, longest * 2, 100000, between(r, 1, 100000)} {
			if length < 1 || length > 100000 {
				continue
			}
			ok, err := wire.Holds(density, strength, length, freq, safety)
			if ok != (length <= longest) || err != api.OK {
				t.Fatalf("Holds(%d, %d, %d, %d, %d): %t, error %d, but Longest is %d", density, strength, length, freq, safety, ok, err, longest)
			}
		}
	}
}

// TestTensionRises is the first half of promise W1.
func TestTensionRises(t *testing.T) {
	r := newRand()
	for range 3000 {
		args := [4]int{between(r, 1, 29999), between(r, 1, 1999), between(r, 1, 50000), 2 * between(r, 1, 4999999)}
		n, _ := wire.Tension(args[0], args[1], args[2], args[3])
		for i, most := range []int{30000, 2000, 100000, 10000000} {
			more := args
			more[i] += between(r, 1, min(10, most-args[i]))
			if m, err := wire.Tension(more[0], more[1], more[2], more[3]); m < n || err != api.OK {
				t.Fatalf("Tension of %v is %d, error %d, but that of %v is %d", more, m, err, args, n)
			}
		}
		m, err := wire.Tension(args[0], args[1], args[2]*2, args[3]/2)
		wantInt(t, "Tension an octave lower", m, err, n, api.OK)
	}
}

// TestRanges is the error of each argument that is out of range: ErrArg.
func TestRanges(t *testing.T) {
	most := []int{30000, 100000, 2000, 100000, 10000000, 100} // density, strength, diameter, length, freq, safety
	try := func(name string, places []int, call func([]int) (bool, api.Errno)) {
		args := make([]int, len(places))
		for _, low := range []bool{true, false} {
			for i, place := range places {
				args[i] = 1
				if !low {
					args[i] = most[place]
				}
			}
			if _, err := call(args); err != api.OK && err != api.ErrNone {
				t.Errorf("%s(%v): error %d", name, args, err)
			}
		}
		for i, place := range places {
			was := args[i]
			for _, bad := range []int{0, -1, most[place] + 1, math.MaxInt, math.MinInt} {
				args[i] = bad
				if zero, err := call(args); !zero || err != api.ErrArg {
					t.Errorf("%s(%v): error %d", name, args, err)
				}
			}
			args[i] = was
		}
	}
	try("Tension", []int{0, 2, 3, 4}, func(a []int) (bool, api.Errno) {
		n, err := wire.Tension(a[0], a[1], a[2], a[3])
		return n == 0, err
	})
	try("Stress", []int{0, 3, 4}, func(a []int) (bool, api.Errno) {
		n, err := wire.Stress(a[0], a[1], a[2])
		return n == 0, err
	})
	try("Holds", []int{0, 1, 3, 4, 5}, func(a []int) (bool, api.Errno) {
		ok, err := wire.Holds(a[0], a[1], a[2], a[3], a[4])
		return !ok, err
	})
	try("Longest", []int{0, 1, 4, 5}, func(a []int) (bool, api.Errno) {
		n, err := wire.Longest(a[0], a[1], a[2], a[3])
		return n == 0, err
	})
}
