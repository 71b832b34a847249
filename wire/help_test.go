package wire_test

import (
	"math/big"
	"math/rand"
	"slices"
	"testing"

	"clavecin/api"
	"clavecin/wire"
)

// The signatures that the document lists.
var (
	_ func(int, int, int, int) (int, api.Errno)                     = wire.Tension
	_ func(int, int, int) (int, api.Errno)                          = wire.Stress
	_ func(int, int, int, int, int) (bool, api.Errno)               = wire.Holds
	_ func(int, int, int, int) (int, api.Errno)                     = wire.Longest
	_ func(api.Scaling) api.Errno                                   = wire.Check
	_ func(api.Scaling, []api.Pick) (int, api.Errno)                = wire.Cost
	_ func(api.Scaling) ([]api.Pick, int, api.Errno)                = wire.Best
	_ func(api.Scaling, []api.Pick) (int, api.Errno)                = wire.Pull
	_ func(api.Scaling, []api.Pick, int) ([]api.Lot, api.Errno)     = wire.Needs
	_ func(pieces []int, coil int) (list []int, n int, e api.Errno) = wire.Coils
	_ func(pieces []int, coil int) (int, api.Errno)                 = wire.Floor
)

func newRand() *rand.Rand { return rand.New(rand.NewSource(1)) }

// between returns a random number from low to high.
func between(r *rand.Rand, low, high int) int { return low + r.Intn(high-low+1) }

// bigProduct multiplies with package math/big.
func bigProduct(numbers ...int) *big.Int {
	p := big.NewInt(1)
	for _, n := range numbers {
		p.Mul(p, big.NewInt(int64(n)))
	}
	return p
}

func tenTo(n int) *big.Int { return new(big.Int).Exp(big.NewInt(10), big.NewInt(int64(n)), nil) }

// tension is the document's formula.
func tension(density, diameter, length, freq int) int {
	above := bigProduct(355, density, diameter, diameter, length, length, freq, freq)
	return int(above.Div(above, bigProduct(113).Mul(bigProduct(113), tenTo(23))).Int64())
}

// holds is the document's formula.
func holds(density, strength, length, freq, safety int) bool {
	limit := bigProduct(safety, strength)
	return bigProduct(400, density, length, length, freq, freq).Cmp(limit.Mul(limit, tenTo(20))) <= 0
}

// spinet is a valid scaling of three courses, in which all picks hold.
func spinet() api.Scaling {
	return api.Scaling{
		Courses: []api.Course{
			{Length: 9000, Freq: 110000, Target: 40000, Weight: 2},
			{Length: 5500, Freq: 220000, Target: 40000, Weight: 1},
			{Length: 3000, Freq: 440000, Target: 35000, Weight: 3},
		},
		Metals: []api.Metal{
			{Density: 8500, Strength: []int{900, 950, 1000}},
			{Density: 7800, Strength: []int{1000, 1100, 1200}},
		},
		Gauges:  []int{350, 300, 250},
		Safety:  90,
		Changes: 2,
	}
}

// copyScaling returns a scaling that shares no memory.
func copyScaling(s api.Scaling) api.Scaling {
	s.Courses, s.Gauges, s.Metals = slices.Clone(s.Courses), slices.Clone(s.Gauges), slices.Clone(s.Metals)
	for i := range s.Metals {
		s.Metals[i].Strength = slices.Clone(s.Metals[i].Strength)
	}
	return s
}

func sameScaling(a, b api.Scaling) bool {
	sameMetal := func(m, n api.Metal) bool { return m.Density == n.Density && slices.Equal(m.Strength, n.Strength) }
	return slices.Equal(a.Courses, b.Courses) && slices.EqualFunc(a.Metals, b.Metals, sameMetal) &&
		slices.Equal(a.Gauges, b.Gauges) && a.Safety == b.Safety && a.Changes == b.Changes
}

// anyScaling returns a valid scaling whose strings hold more often than not.
func anyScaling(r *rand.Rand, courses, metals, gauges int) api.Scaling {
	s := api.Scaling{Safety: between(r, 40, 100), Changes: between(r, 0, min(courses, metals+gauges))}
	weight := []int{0, 1, 2, 1000}[r.Intn(4)]
	for range courses {
		c := api.Course{Length: between(r, 1000, 5000), Freq: between(r, 100000, 400000), Target: between(r, 0, 100000)}
		c.Weight = r.Intn(weight + 1)
		s.Courses = append(s.Courses, c)
	}
	for range metals {
		m := api.Metal{Density: between(r, 5000, 10000)}
		for range gauges {
			m.Strength = append(m.Strength, between(r, 300, 3000))
		}
		s.Metals = append(s.Metals, m)
	}
	for i := range gauges {
		s.Gauges = append(s.Gauges, 100+50*(gauges-i)-r.Intn(50))
	}
	return s
}

// valid is the document's definition, word by word.
func valid(s api.Scaling) bool {
	if len(s.Courses) < 1 || len(s.Courses) > 96 || len(s.Metals) < 1 || len(s.Metals) > 4 || len(s.Gauges) < 1 || len(s.Gauges) > 16 {
		return false
	}
	for i, g := range s.Gauges {
		if g < 1 || g > 2000 || i > 0 && g >= s.Gauges[i-1] {
			return false
		}
	}
	for _, m := range s.Metals {
		if m.Density < 1 || m.Density > 30000 || len(m.Strength) != len(s.Gauges) {
			return false
		}
		if slices.Min(m.Strength) < 1 || slices.Max(m.Strength) > 100000 {
			return false
		}
	}
	for _, c := range s.Courses {
		if c.Length < 1 || c.Length > 100000 || c.Freq < 1 || c.Freq > 10000000 || c.Target < 0 || c.Target > 1000000000 || c.Weight < 0 || c.Weight > 1000 {
			return false
		}
	}
	return s.Safety >= 1 && s.Safety <= 100 && s.Changes >= 0 && s.Changes <= 96
}

// cost is the document's definition of what picks that fit cost, and whether they are allowed.
func cost(s api.Scaling, picks []api.Pick) (int, bool) {
	total, changes := 0, 0
	for i, c := range s.Courses {
		m := s.Metals[picks[i].Metal]
		if !holds(m.Density, m.Strength[picks[i].Gauge], c.Length, c.Freq, s.Safety) {
			return 0, false
		}
		if i > 0 && (picks[i].Metal < picks[i-1].Metal || picks[i].Gauge < picks[i-1].Gauge) {
			return 0, false
		}
		if i > 0 && (picks[i].Metal != picks[i-1].Metal || picks[i].Gauge != picks[i-1].Gauge) {
			changes++
		}
		off := tension(m.Density, s.Gauges[picks[i].Gauge], c.Length, c.Freq) - c.Target
		if off < 0 {
			off = -off
		}
		total += c.Weight * off
	}
	return total, changes <= s.Changes
}

// anyPicks returns picks that fit, and that rise more often than not.
func anyPicks(r *rand.Rand, s api.Scaling) []api.Pick {
	picks := []api.Pick{{Metal: r.Intn(len(s.Metals)), Gauge: r.Intn(len(s.Gauges))}}
	for len(picks) < len(s.Courses) {
		last := picks[len(picks)-1]
		switch r.Intn(4) {
		case 0:
			last.Metal = min(last.Metal+1, len(s.Metals)-1)
		case 1:
			last.Gauge = min(last.Gauge+1, len(s.Gauges)-1)
		case 2:
			if r.Intn(8) == 0 {
				last = api.Pick{Metal: r.Intn(len(s.Metals)), Gauge: r.Intn(len(s.Gauges))}
			}
		}
		picks = append(picks, last)
	}
	return picks
}

// lot is wire of the stock.
func lot(item string, qty int) api.Lot { return api.Lot{Account: "wire", Item: item, Qty: qty} }

// wantInt tests a number and its error against those that are right.
func wantInt(t *testing.T, name string, got int, err api.Errno, want int, wantErr api.Errno) {
	t.Helper()
	if got != want || err != wantErr {
		t.Errorf("%s: %d, error %d, want %d, error %d", name, got, err, want, wantErr)
	}
}

// wantList tests a list and its error against those that are right.
func wantList[T comparable](t *testing.T, name string, got []T, err api.Errno, want []T, wantErr api.Errno) {
	t.Helper()
	if !slices.Equal(got, want) || err != wantErr {
		t.Errorf("%s: %v, error %d, want %v, error %d", name, got, err, want, wantErr)
	}
}
