package wire_test

import (
	"math/rand"
	"slices"
	"testing"
	"time"

	"clavecin/api"
	"clavecin/wire"
)

func TestBestExample(t *testing.T) {
	s := api.Scaling{
		Courses: []api.Course{{Length: 3000, Freq: 440000, Target: 38426, Weight: 1}, {Length: 3000, Freq: 440000, Target: 17078, Weight: 1}},
		Metals:  []api.Metal{{Density: 7800, Strength: []int{1000, 1000}}},
		Gauges:  []int{300, 200},
		Safety:  100,
		Changes: 1,
	}
	picks, n, err := wire.Best(s)
	wantList(t, "Best", picks, err, []api.Pick{{}, {Gauge: 1}}, api.OK)
	wantInt(t, "Best", n, err, 0, api.OK)
	s.Changes = 0 // both ways cost 21348: the thick gauge comes first
	picks, n, err = wire.Best(s)
	wantList(t, "Best without changes", picks, err, []api.Pick{{}, {}}, api.OK)
	wantInt(t, "Best without changes", n, err, 21348, api.OK)
	s.Courses[1].Weight = 2
	picks, n, err = wire.Best(s)
	wantList(t, "Best without changes, the second one dear", picks, err, []api.Pick{{Gauge: 1}, {Gauge: 1}}, api.OK)
	wantInt(t, "Best without changes, the second one dear", n, err, 21348, api.OK)
	slices.Reverse(s.Courses) // thin before thick is not allowed
	s.Changes = 96
	picks, n, err = wire.Best(s)
	wantList(t, "Best the wrong way round", picks, err, []api.Pick{{Gauge: 1}, {Gauge: 1}}, api.OK)
	wantInt(t, "Best the wrong way round", n, err, 21348, api.OK)
}

// TestBestTies: of picks that cost the same the lexicographically least ones are returned.
func TestBestTies(t *testing.T) {
	s := spinet()
	for i := range s.Courses {
		s.Courses[i].Weight = 0
	}
	picks, n, err := wire.Best(s)
	wantList(t, "Best with weights 0", picks, err, []api.Pick{{}, {}, {}}, api.OK)
	wantInt(t, "Best with weights 0", n, err, 0, api.OK)
	s.Metals[0].Strength = []int{1, 1, 1} // only the second metal holds
	picks, _, err = wire.Best(s)
	wantList(t, "Best with a weak metal", picks, err, []api.Pick{{Metal: 1}, {Metal: 1}, {Metal: 1}}, api.OK)
	s.Metals[0].Strength = []int{1, 1, 1000} // by Metal first: the thin gauge of the bass metal is less
	picks, _, err = wire.Best(s)
	wantList(t, "Best with one weak metal", picks, err, []api.Pick{{Gauge: 2}, {Gauge: 2}, {Gauge: 2}}, api.OK)
}

func TestBestNone(t *testing.T) {
	weak := spinet()
	weak.Safety = 1
	// A single course that holds with nothing is enough.
	strained := spinet()
	strained.Courses[1].Freq = 10000000
	for i, s := range []api.Scaling{weak, strained} {
		if found, _, _ := forwards(s); found {
			t.Fatalf("%d: the test is wrong", i)
		}
		picks, n, err := wire.Best(s)
		wantList(t, "Best", picks, err, nil, api.ErrNone)
		wantInt(t, "Best", n, err, 0, api.ErrNone)
	}
}

// TestChanges: as many changes as are allowed may be used, and no more.
func TestChanges(t *testing.T) {
	s := spinet()
	s.Metals = s.Metals[1:]
	for i := range s.Courses {
		s.Courses[i] = api.Course{Length: 3000, Freq: 440000, Weight: 1, Target: tension(7800, s.Gauges[i], 3000, 440000)}
	}
	for changes, want := range [][]api.Pick{{{Gauge: 1}, {Gauge: 1}, {Gauge: 1}}, {{}, {Gauge: 1}, {Gauge: 1}}, {{}, {Gauge: 1}, {Gauge: 2}}, {{}, {Gauge: 1}, {Gauge: 2}}} {
		s.Changes = changes
		picks, n, err := wire.Best(s)
		wantList(t, "Best", picks, err, want, api.OK)
		least, _ := cost(s, want)
		wantInt(t, "Best", n, err, least, api.OK)
	}
}

// all calls f with all picks that fit, in lexicographic order; f does not keep them.
func all(s api.Scaling, f func([]api.Pick)) {
	picks := make([]api.Pick, 0, len(s.Courses))
	var fill func()
	fill = func() {
		if len(picks) == len(s.Courses) {
			f(picks)
			return
		}
		for metal := range s.Metals {
			for gauge := range s.Gauges {
				picks = append(picks, api.Pick{Metal: metal, Gauge: gauge})
				fill()
				picks = picks[:len(picks)-1]
			}
		}
	}
	fill()
}

// TestBestOfAll tries all picks of small scalings.
func TestBestOfAll(t *testing.T) {
	r := newRand()
	none := 0
	for range 400 {
		s := anyScaling(r, between(r, 1, 4), between(r, 1, 2), between(r, 1, 3))
		if r.Intn(2) == 0 { // equal courses, so that many picks cost the same
			for i := range s.Courses {
				s.Courses[i] = s.Courses[0]
			}
		}
		var want []api.Pick
		least := 0
		all(s, func(picks []api.Pick) {
			if n, ok := cost(s, picks); ok && (want == nil || n < least) {
				want, least = slices.Clone(picks), n
			}
		})
		checkBest(t, s, want, least)
		if want == nil {
			none++
		}
	}
	if none < 5 || none > 200 {
		t.Errorf("%d scalings of 400 have no picks: this tests too little", none)
	}
}

// checkBest tests Best against what it should return; want is nil if there is nothing.
func checkBest(t *testing.T, s api.Scaling, want []api.Pick, least int) {
	t.Helper()
	wantErr := api.OK
	if want == nil {
		wantErr = api.ErrNone
	}
	picks, n, err := wire.Best(s)
	wantList(t, "Best", picks, err, want, wantErr)
	wantInt(t, "Best", n, err, least, wantErr)
}

// track is the best way to a pick, with the changes up to there.
type track struct {
	found bool
	cost  int
	picks []api.Pick
}

func (a track) isBetter(b track) bool {
	if !a.found || !b.found {
		return a.found
	}
	if a.cost != b.cost {
		return a.cost < b.cost
	}
	return slices.CompareFunc(a.picks, b.picks, func(p, q api.Pick) int { return (p.Metal-q.Metal)*100 + p.Gauge - q.Gauge }) < 0
}

// forwards finds the best picks by a search from the first course on, which keeps whole ways: a second method.
func forwards(s api.Scaling) (bool, []api.Pick, int) {
	type state struct {
		pick    api.Pick
		changes int
	}
	ways := map[state]track{}
	for i, c := range s.Courses {
		next := map[state]track{}
		for metal, m := range s.Metals {
			for gauge, diameter := range s.Gauges {
				if !holds(m.Density, m.Strength[gauge], c.Length, c.Freq, s.Safety) {
					continue
				}
				pick := api.Pick{Metal: metal, Gauge: gauge}
				off := tension(m.Density, diameter, c.Length, c.Freq) - c.Target
				own := c.Weight * max(off, -off)
				if i == 0 {
					next[state{pick, 0}] = track{true, own, []api.Pick{pick}}
				}
				for before, way := range ways {
					to := state{pick, before.changes}
					if pick != before.pick {
						to.changes++
					}
					if before.pick.Metal > metal || before.pick.Gauge > gauge || to.changes > s.Changes {
						continue
					}
					if longer := (track{true, way.cost + own, append(slices.Clone(way.picks), pick)}); longer.isBetter(next[to]) {
						next[to] = longer
					}
				}
			}
		}
		ways = next
	}
	var best track
	for _, way := range ways {
		if way.isBetter(best) {
			best = way
		}
	}
	return best.found, best.picks, best.cost
}

func TestBestForwards(t *testing.T) {
	r := newRand()
	for i := range 150 {
		s := anyScaling(r, between(r, 1, 20), between(r, 1, 4), between(r, 1, 5))
		s.Safety = 100
		if i%3 == 0 {
			s.Changes = 96
		}
		for k := range s.Courses { // weak strings are rarer, so that most scalings have picks
			s.Courses[k].Length /= 2
		}
		_, want, least := forwards(s)
		checkBest(t, s, want, least)
	}
}

// TestBestGreatest is the greatest scaling: it is searched quickly, and its best picks are those of the second method.
func TestBestGreatest(t *testing.T) {
	for _, changes := range []int{96, 17, 3} {
		s := greatest(96, 4, 16)
		s.Changes = changes
		start := time.Now()
		picks, n, err := wire.Best(s)
		if took := time.Since(start); took > 3*time.Second {
			t.Errorf("Best took %v", took)
		}
		if m, errCost := wire.Cost(s, picks); m != n || err != api.OK || errCost != api.OK {
			t.Errorf("Best: %d, error %d, but its picks cost %d, error %d", n, err, m, errCost)
		}
		if _, want, least := forwards(s); n != least || !slices.Equal(picks, want) {
			t.Errorf("Best: %v at %d, want %v at %d", picks, n, want, least)
		}
	}
}

// TestDearest: the greatest costs fit.
func TestDearest(t *testing.T) {
	s := api.Scaling{
		Courses: slices.Repeat([]api.Course{{Length: 100000, Freq: 91287, Target: 0, Weight: 1000}}, 96),
		Metals:  []api.Metal{{Density: 30000, Strength: []int{100000}}},
		Gauges:  []int{2000},
		Safety:  100,
	}
	same := slices.Repeat([]api.Pick{{}}, 96)
	checkBest(t, s, same, 96*1000*314158652)
	s.Courses = slices.Repeat([]api.Course{{Length: 1, Freq: 1, Target: 1000000000, Weight: 1000}}, 96)
	checkBest(t, s, same, 96*1000*1000000000)
	s.Courses[95].Freq = 10000000 // far more than a string of a tenth of a millimetre is pulled with
	checkBest(t, s, same, 96*1000*1000000000-1000*tension(30000, 2000, 1, 10000000))
}

// TestNoCheaperPicks is promise W2 for scalings that are too large to try all picks.
func TestNoCheaperPicks(t *testing.T) {
	r := newRand()
	s := greatest(60, 3, 12)
	s.Changes = 9
	picks, least, err := wire.Best(s)
	if err != api.OK {
		t.Fatalf("Best: error %d", err)
	}
	for range 3000 {
		other := changed(r, s, picks)
		if n, err := wire.Cost(s, other); err == api.OK && n < least {
			t.Fatalf("%v cost %d, less than %d", other, n, least)
		}
	}
}

// changed returns picks that differ in a run of courses.
func changed(r *rand.Rand, s api.Scaling, picks []api.Pick) []api.Pick {
	other := slices.Clone(picks)
	from := r.Intn(len(picks))
	pick := api.Pick{Metal: r.Intn(len(s.Metals)), Gauge: r.Intn(len(s.Gauges))}
	if r.Intn(2) == 0 {
		pick = picks[r.Intn(len(picks))]
	}
	for i := from; i < min(len(picks), from+1+r.Intn(20)); i++ {
		other[i] = pick
	}
	return other
}
