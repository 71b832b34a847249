package wire_test

import (
	"math"
	"slices"
	"strconv"
	"testing"

	"clavecin/api"
	"clavecin/wire"
)

// spoilt is a scaling and whether it is meant to be valid.
type spoilt struct {
	name    string
	scaling api.Scaling
}

// badScalings returns invalid scalings, each with one fault.
func badScalings() []spoilt {
	var list []spoilt
	add := func(name string, change func(s *api.Scaling)) {
		s := spinet()
		change(&s)
		list = append(list, spoilt{name, s})
	}
	for _, n := range []int{0, -1, math.MinInt, math.MaxInt} {
		add("density", func(s *api.Scaling) { s.Metals[1].Density = n })
		add("strength", func(s *api.Scaling) { s.Metals[1].Strength[2] = n })
		add("diameter", func(s *api.Scaling) { s.Gauges[2] = n })
		add("thickest", func(s *api.Scaling) { s.Gauges[0] = n })
		add("length", func(s *api.Scaling) { s.Courses[2].Length = n })
		add("frequency", func(s *api.Scaling) { s.Courses[2].Freq = n })
		add("safety", func(s *api.Scaling) { s.Safety = n })
	}
	for _, n := range []int{-1, math.MinInt, math.MaxInt} {
		add("target", func(s *api.Scaling) { s.Courses[0].Target = n })
		add("weight", func(s *api.Scaling) { s.Courses[0].Weight = n })
		add("changes", func(s *api.Scaling) { s.Changes = n })
	}
	add("density", func(s *api.Scaling) { s.Metals[0].Density = 30001 })
	add("strength", func(s *api.Scaling) { s.Metals[0].Strength[0] = 100001 })
	add("diameter", func(s *api.Scaling) { s.Gauges[0] = 2001 })
	add("length", func(s *api.Scaling) { s.Courses[0].Length = 100001 })
	add("frequency", func(s *api.Scaling) { s.Courses[0].Freq = 10000001 })
	add("target", func(s *api.Scaling) { s.Courses[2].Target = 1000000001 })
	add("weight", func(s *api.Scaling) { s.Courses[2].Weight = 1001 })
	add("safety", func(s *api.Scaling) { s.Safety = 101 })
	add("changes", func(s *api.Scaling) { s.Changes = 97 })
	add("equal gauges", func(s *api.Scaling) { s.Gauges[1] = s.Gauges[0] })
	add("rising gauges", func(s *api.Scaling) { s.Gauges[2] = s.Gauges[1] + 1 })
	add("no courses", func(s *api.Scaling) { s.Courses = nil })
	add("no metals", func(s *api.Scaling) { s.Metals = nil })
	add("no gauges", func(s *api.Scaling) { s.Gauges = nil })
	add("no gauges and strengths", func(s *api.Scaling) {
		s.Gauges = nil
		for i := range s.Metals {
			s.Metals[i].Strength = nil
		}
	})
	add("few strengths", func(s *api.Scaling) { s.Metals[1].Strength = s.Metals[1].Strength[:2] })
	add("many strengths", func(s *api.Scaling) { s.Metals[0].Strength = append(s.Metals[0].Strength, 1000) })
	add("many courses", func(s *api.Scaling) { s.Courses = slices.Repeat(s.Courses[:1], 97) })
	add("many metals", func(s *api.Scaling) { s.Metals = slices.Repeat(s.Metals[:1], 5) })
	list = append(list, spoilt{"many gauges", greatest(3, 2, 17)}, spoilt{"nothing", api.Scaling{}})
	return list
}

// greatest returns a scaling of that size whose picks all hold.
func greatest(courses, metals, gauges int) api.Scaling {
	s := api.Scaling{Safety: 100, Changes: 96}
	for i := range courses {
		s.Courses = append(s.Courses, api.Course{Length: 9000 - 50*i, Freq: 50000 + 1000*i, Target: 40000 + i*i*7%9000, Weight: i * i % 1001})
	}
	for i := range metals {
		s.Metals = append(s.Metals, api.Metal{Density: 9000 - 400*i, Strength: slices.Repeat([]int{100000}, gauges)})
	}
	for i := range gauges {
		s.Gauges = append(s.Gauges, 900-35*i)
	}
	return s
}

func TestCheck(t *testing.T) {
	for _, s := range badScalings() {
		if valid(s.scaling) {
			t.Fatalf("%s: the test is wrong", s.name)
		}
		wantInt(t, "Check of "+s.name, 0, wire.Check(s.scaling), 0, api.ErrArg)
	}
	good := []api.Scaling{spinet(), greatest(96, 4, 16), greatest(1, 1, 1)}
	for _, change := range []func(s *api.Scaling){
		func(s *api.Scaling) { s.Changes, s.Safety = 96, 100 },
		func(s *api.Scaling) { s.Changes, s.Safety = 0, 1 },
		func(s *api.Scaling) { s.Courses[0] = api.Course{Length: 1, Freq: 1} },
		func(s *api.Scaling) {
			s.Courses[0] = api.Course{Length: 100000, Freq: 10000000, Target: 1000000000, Weight: 1000}
		},
		func(s *api.Scaling) { s.Metals[0] = api.Metal{Density: 1, Strength: []int{1, 1, 1}} },
		func(s *api.Scaling) {
			s.Metals[0] = api.Metal{Density: 30000, Strength: slices.Repeat([]int{100000}, 3)}
		},
		func(s *api.Scaling) { s.Gauges = []int{2000, 2, 1} },
	} {
		s := spinet()
		change(&s)
		good = append(good, s)
	}
	for i, s := range good {
		if !valid(s) {
			t.Fatalf("%d: the test is wrong", i)
		}
		wantInt(t, "Check of good scaling "+strconv.Itoa(i), 0, wire.Check(s), 0, api.OK)
	}
}

func distance(n int) int { return max(n, -n) }

func TestCost(t *testing.T) {
	s := spinet()
	picks := []api.Pick{{}, {Gauge: 1}, {Metal: 1, Gauge: 1}}
	// The tensions are 32060, 35186 and 38426.
	n, err := wire.Cost(s, picks)
	wantInt(t, "Cost", n, err, 2*distance(32060-40000)+distance(35186-40000)+3*distance(38426-35000), api.OK)
	n, err = wire.Pull(s, picks)
	wantInt(t, "Pull", n, err, 32060+35186+38426, api.OK)
	s.Courses = s.Courses[2:]
	n, err = wire.Cost(s, picks[2:])
	wantInt(t, "Cost of one course", n, err, 3*3426, api.OK)
	s.Courses[0].Target = 38427
	n, err = wire.Cost(s, picks[2:])
	wantInt(t, "Cost below the target", n, err, 3, api.OK)
}

func TestNotAllowed(t *testing.T) {
	bass, treble := api.Pick{}, api.Pick{Metal: 1, Gauge: 2}
	for _, c := range []struct {
		name   string
		picks  []api.Pick
		change func(s *api.Scaling)
	}{
		{"a metal falls", []api.Pick{{Metal: 1}, {}, {}}, func(*api.Scaling) {}},
		{"a metal falls while a gauge rises", []api.Pick{{Metal: 1}, {Metal: 1}, {Gauge: 1}}, func(*api.Scaling) {}},
		{"a gauge falls", []api.Pick{{Gauge: 1}, {Gauge: 1}, {}}, func(*api.Scaling) {}},
		{"a gauge falls while a metal rises", []api.Pick{{Gauge: 1}, {Metal: 1}, {Metal: 1}}, func(*api.Scaling) {}},
		{"two changes", []api.Pick{bass, {Gauge: 1}, treble}, func(s *api.Scaling) { s.Changes = 1 }},
		{"one change", []api.Pick{bass, bass, treble}, func(s *api.Scaling) { s.Changes = 0 }},
		{"the first string is too weak", []api.Pick{bass, treble, treble}, func(s *api.Scaling) { s.Metals[0].Strength[0] = 300 }},
		{"the last string is too weak", []api.Pick{bass, bass, treble}, func(s *api.Scaling) { s.Metals[1].Strength[2] = 300 }},
		{"the safety is too great", []api.Pick{bass, bass, treble}, func(s *api.Scaling) { s.Safety = 10 }},
	} {
		s := spinet()
		if _, err := wire.Cost(s, c.picks); c.name[:1] == "t" && err != api.OK {
			t.Errorf("%s: not allowed before: error %d", c.name, err)
		}
		c.change(&s)
		n, err := wire.Cost(s, c.picks)
		wantInt(t, "Cost if "+c.name, n, err, 0, api.ErrNone)
		pull, err := wire.Pull(s, c.picks)
		if pull == 0 || err != api.OK {
			t.Errorf("Pull if %s: %d, error %d", c.name, pull, err)
		}
		lots, err := wire.Needs(s, c.picks, 0)
		if len(lots) == 0 || err != api.OK {
			t.Errorf("Needs if %s: %v, error %d", c.name, lots, err)
		}
	}
}

// TestStrengthAtGauge: the strength of a metal counts at the gauge that is picked, and at no other one.
func TestStrengthAtGauge(t *testing.T) {
	s := spinet()
	s.Courses = s.Courses[:1]
	s.Metals = []api.Metal{{Density: 8500, Strength: []int{1, 1000, 1}}, {Density: 8500, Strength: []int{1, 1, 1000}}}
	for metal := range 2 {
		for gauge := range 3 {
			_, err := wire.Cost(s, []api.Pick{{Metal: metal, Gauge: gauge}})
			want := api.ErrNone
			if gauge == metal+1 {
				want = api.OK
			}
			wantInt(t, "Cost of metal "+strconv.Itoa(metal)+", gauge "+strconv.Itoa(gauge), 0, err, 0, want)
		}
	}
}

// badPicks returns picks that do not fit the spinet.
func badPicks() [][]api.Pick {
	list := [][]api.Pick{nil, {}, {{}}, {{}, {}}, {{}, {}, {}, {}}}
	for _, bad := range []api.Pick{{Metal: -1}, {Metal: 2}, {Gauge: -1}, {Gauge: 3}, {Metal: math.MaxInt}, {Gauge: math.MinInt}, {Metal: 2, Gauge: -1}} {
		list = append(list, []api.Pick{bad, {}, {}}, []api.Pick{{}, {}, bad})
	}
	return list
}

func TestForm(t *testing.T) {
	for _, picks := range badPicks() {
		n, err := wire.Cost(spinet(), picks)
		wantInt(t, "Cost", n, err, 0, api.ErrForm)
		n, err = wire.Pull(spinet(), picks)
		wantInt(t, "Pull", n, err, 0, api.ErrForm)
		lots, err := wire.Needs(spinet(), picks, 10)
		wantList(t, "Needs", lots, err, nil, api.ErrForm)
	}
	// Picks that do not fit may be those of other courses that would not be allowed, either.
	n, err := wire.Cost(spinet(), []api.Pick{{Metal: 1}, {}, {Gauge: 3}})
	wantInt(t, "Cost", n, err, 0, api.ErrForm)
}

// TestArgBeforeForm is rule R2.
func TestArgBeforeForm(t *testing.T) {
	for _, s := range badScalings() {
		for _, picks := range [][]api.Pick{{{}, {}, {}}, {{Metal: -1}}, nil} {
			n, err := wire.Cost(s.scaling, picks)
			wantInt(t, "Cost with bad "+s.name, n, err, 0, api.ErrArg)
			n, err = wire.Pull(s.scaling, picks)
			wantInt(t, "Pull with bad "+s.name, n, err, 0, api.ErrArg)
			lots, err := wire.Needs(s.scaling, picks, 0)
			wantList(t, "Needs with bad "+s.name, lots, err, nil, api.ErrArg)
		}
		picks, n, err := wire.Best(s.scaling)
		wantInt(t, "Best with bad "+s.name, n, err, 0, api.ErrArg)
		wantList(t, "Best with bad "+s.name, picks, err, nil, api.ErrArg)
	}
	for _, tail := range []int{-1, 100001, math.MinInt, math.MaxInt} {
		lots, err := wire.Needs(spinet(), []api.Pick{{}, {}, {}}, tail)
		wantList(t, "Needs with a bad tail", lots, err, nil, api.ErrArg)
		lots, err = wire.Needs(spinet(), nil, tail)
		wantList(t, "Needs with a bad tail and no picks", lots, err, nil, api.ErrArg)
	}
}

// TestCosts compares with the document's definitions.
func TestCosts(t *testing.T) {
	r := newRand()
	allowed := 0
	for range 3000 {
		s := anyScaling(r, between(r, 1, 8), between(r, 1, 4), between(r, 1, 6))
		s.Safety = 100
		picks := anyPicks(r, s)
		want, ok := cost(s, picks)
		n, err := wire.Cost(s, picks)
		if ok {
			allowed++
			wantInt(t, "Cost", n, err, want, api.OK)
		} else {
			wantInt(t, "Cost", n, err, 0, api.ErrNone)
		}
		pull := 0
		for i, c := range s.Courses {
			pull += tension(s.Metals[picks[i].Metal].Density, s.Gauges[picks[i].Gauge], c.Length, c.Freq)
		}
		n, err = wire.Pull(s, picks)
		wantInt(t, "Pull", n, err, pull, api.OK)
	}
	if allowed < 300 || allowed > 2700 {
		t.Errorf("%d picks of 3000 are allowed: this tests too little", allowed)
	}
}

func TestNeeds(t *testing.T) {
	s := spinet()
	lots, err := wire.Needs(s, []api.Pick{{Metal: 1, Gauge: 2}, {Metal: 1}, {Gauge: 2}}, 100)
	wantList(t, "Needs", lots, err, []api.Lot{lot("m0g250", 3100), lot("m1g350", 5600), lot("m1g250", 9100)}, api.OK)
	lots, err = wire.Needs(s, []api.Pick{{Gauge: 1}, {}, {Gauge: 1}}, 0)
	wantList(t, "Needs without tails", lots, err, []api.Lot{lot("m0g350", 5500), lot("m0g300", 12000)}, api.OK)
	lots, err = wire.Needs(s, []api.Pick{{}, {}, {}}, 100000)
	wantList(t, "Needs with the longest tails", lots, err, []api.Lot{lot("m0g350", 317500)}, api.OK)
	s.Courses[1].Length = 1
	lots, err = wire.Needs(s, []api.Pick{{}, {Gauge: 1}, {}}, 0)
	wantList(t, "Needs of the shortest string", lots, err, []api.Lot{lot("m0g350", 12000), lot("m0g300", 1)}, api.OK)
	s = spinet()
	s.Gauges = []int{2000, 10, 1}
	lots, err = wire.Needs(s, []api.Pick{{Metal: 1}, {Metal: 1, Gauge: 1}, {Metal: 1, Gauge: 2}}, 1)
	wantList(t, "Needs of other gauges", lots, err, []api.Lot{lot("m1g2000", 9001), lot("m1g10", 5501), lot("m1g1", 3001)}, api.OK)
}

// TestNeedsAddUp is promise W4, with the order of the lots.
func TestNeedsAddUp(t *testing.T) {
	r := newRand()
	for range 500 {
		s := anyScaling(r, between(r, 1, 96), between(r, 1, 4), between(r, 1, 16))
		picks, tail := anyPicks(r, s), r.Intn(100001)
		lots, err := wire.Needs(s, picks, tail)
		if err != api.OK {
			t.Fatalf("Needs: error %d", err)
		}
		left := 0
		for _, c := range s.Courses {
			left += c.Length + tail
		}
		next := 0
		for metal := range s.Metals {
			for gauge, diameter := range s.Gauges {
				if !slices.Contains(picks, api.Pick{Metal: metal, Gauge: gauge}) {
					continue
				}
				item := "m" + strconv.Itoa(metal) + "g" + strconv.Itoa(diameter)
				if next == len(lots) || lots[next].Account != "wire" || lots[next].Item != item {
					t.Fatalf("Needs: %v, want %s as lot %d", lots, item, next)
				}
				left -= lots[next].Qty
				next++
			}
		}
		if left != 0 || next != len(lots) {
			t.Fatalf("Needs: %v: off by %d", lots, left)
		}
	}
}
