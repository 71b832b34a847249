package action_test

import (
	"math"
	"math/rand"
	"slices"
	"testing"
	"time"

	"clavecin/action"
	"clavecin/api"
)

// regulation is what is asked of Regulate, Clash, Slack and Highest.
type regulation struct {
	n    int
	ties []api.Tie
}

// all returns the ties with those that a clash may use as well.
func (g regulation) all() []api.Tie {
	ties := slices.Clone(g.ties)
	for i := range g.n {
		ties = append(ties, api.Tie{A: -1, B: i, Least: 0})
	}
	return ties
}

// holds tells whether variables satisfy a regulation.
func (g regulation) holds(x []int) bool {
	at := append([]int{0}, x...)
	for _, tie := range g.all() {
		if at[tie.B+1]-at[tie.A+1] < tie.Least {
			return false
		}
	}
	return true
}

func badRegulations() []regulation {
	list := []regulation{{0, nil}, {-1, nil}, {65, nil}, {math.MinInt, nil}, {math.MaxInt, nil}, {2, slices.Repeat([]api.Tie{{A: 0, B: 1}}, 513)}}
	for _, n := range []int{-2, 2, math.MinInt, math.MaxInt} {
		list = append(list, regulation{2, []api.Tie{{A: 0, B: 1}, {A: n, B: 1}}}, regulation{2, []api.Tie{{A: 0, B: 1}, {A: 1, B: n}}})
	}
	for _, n := range []int{-1000001, 1000001, math.MinInt, math.MaxInt} {
		list = append(list, regulation{2, []api.Tie{{A: 0, B: 1}, {A: 0, B: 1, Least: n}}})
	}
	return list
}

func TestBadRegulations(t *testing.T) {
	for _, g := range badRegulations() {
		x, err := action.Regulate(g.n, g.ties)
		wantList(t, "Regulate", x, err, nil, api.ErrArg)
		x, err = action.Clash(g.n, g.ties)
		wantList(t, "Clash", x, err, nil, api.ErrArg)
		for _, values := range [][]int{nil, {0}, {0, 0}} {
			x, err = action.Slack(g.n, g.ties, values)
			wantList(t, "Slack", x, err, nil, api.ErrArg)
		}
		for _, top := range []int{-1, 0, 9} {
			x, err = action.Highest(g.n, g.ties, top)
			wantList(t, "Highest", x, err, nil, api.ErrArg)
		}
	}
	for _, top := range []int{-1, 1000001, math.MinInt, math.MaxInt} {
		x, err := action.Highest(1, nil, top)
		wantList(t, "Highest", x, err, nil, api.ErrArg)
		x, err = action.Highest(1, []api.Tie{{A: 0, B: 0, Least: 1}}, top) // ErrArg comes before ErrNone
		wantList(t, "Highest", x, err, nil, api.ErrArg)
	}
}

// wantClash tests a clash as the document defines it.
func wantClash(t *testing.T, g regulation) {
	t.Helper()
	clash, err := action.Clash(g.n, g.ties)
	all := g.all()
	if err != api.OK || len(clash) == 0 {
		t.Fatalf("Clash(%v): %v, error %d", g, clash, err)
	}
	sum := 0
	from := map[int]bool{}
	for i, k := range clash {
		if k < 0 || k >= len(all) {
			t.Fatalf("Clash(%v): %v has index %d", g, clash, k)
		}
		next := clash[(i+1)%len(clash)]
		if next < 0 || next >= len(all) || all[k].B != all[next].A {
			t.Fatalf("Clash(%v): %v is broken behind %d", g, clash, k)
		}
		if from[all[k].A] {
			t.Fatalf("Clash(%v): %v comes twice to %d", g, clash, all[k].A)
		}
		from[all[k].A] = true
		sum += all[k].Least
	}
	if sum <= 0 {
		t.Fatalf("Clash(%v): the sum of %v is %d", g, clash, sum)
	}
}

// wantSolved tests Regulate and Clash against the least solution, or nil if there is none: promises A1 and A2.
func wantSolved(t *testing.T, g regulation, least []int) {
	t.Helper()
	x, err := action.Regulate(g.n, g.ties)
	if least == nil {
		wantList(t, "Regulate", x, err, nil, api.ErrNone)
		wantClash(t, g)
		return
	}
	if err != api.OK || !slices.Equal(x, least) {
		t.Fatalf("Regulate(%v): %v, error %d, want %v", g, x, err, least)
	}
	clash, err := action.Clash(g.n, g.ties)
	wantList(t, "Clash", clash, err, nil, api.ErrNone)
	slack, err := action.Slack(g.n, g.ties, x)
	if err != api.OK || len(slack) != len(g.ties) || len(slack) > 0 && slices.Min(slack) < 0 || !g.holds(x) {
		t.Fatalf("Regulate(%v): %v leaves %v", g, x, slack)
	}
}

// wantHighest tests Highest against the greatest solution, or nil if there is none.
func wantHighest(t *testing.T, g regulation, top int, greatest []int) {
	t.Helper()
	wantErr := api.OK
	if greatest == nil {
		wantErr = api.ErrNone
	}
	x, err := action.Highest(g.n, g.ties, top)
	if err != wantErr || !slices.Equal(x, greatest) {
		t.Fatalf("Highest(%v, %d): %v, error %d, want %v, error %d", g, top, x, err, greatest, wantErr)
	}
}

func TestRegulateExamples(t *testing.T) {
	for _, c := range []struct {
		g     regulation
		least []int
	}{
		{regulation{2, []api.Tie{{A: -1, B: 0, Least: 3}, {A: 0, B: 1, Least: 2}}}, []int{3, 5}},
		{regulation{2, []api.Tie{{A: -1, B: 0, Least: 3}, {A: 0, B: 1, Least: 2}, {A: 1, B: 0, Least: -1}}}, nil},
		{regulation{2, []api.Tie{{A: -1, B: 0, Least: 3}, {A: 0, B: 1, Least: 2}, {A: 1, B: 0, Least: -2}}}, []int{3, 5}},
		{regulation{1, nil}, []int{0}},
		{regulation{3, nil}, []int{0, 0, 0}},
		{regulation{1, []api.Tie{{A: -1, B: 0, Least: -7}}}, []int{0}}, // a variable is 0 or more even so
		{regulation{1, []api.Tie{{A: -1, B: -1, Least: 0}}}, []int{0}},
		{regulation{1, []api.Tie{{A: -1, B: -1, Least: -5}}}, []int{0}},
		{regulation{1, []api.Tie{{A: -1, B: -1, Least: 1}}}, nil},
		{regulation{1, []api.Tie{{A: 0, B: 0, Least: 0}}}, []int{0}},
		{regulation{1, []api.Tie{{A: 0, B: 0, Least: -1}}}, []int{0}},
		{regulation{1, []api.Tie{{A: 0, B: 0, Least: 1}}}, nil},
		{regulation{1, []api.Tie{{A: 0, B: -1, Least: 0}}}, []int{0}},
		{regulation{1, []api.Tie{{A: 0, B: -1, Least: 1}}}, nil}, // clashes with 0 or more
		{regulation{1, []api.Tie{{A: 0, B: -1, Least: -4}, {A: -1, B: 0, Least: 4}}}, []int{4}},
		{regulation{1, []api.Tie{{A: 0, B: -1, Least: -4}, {A: -1, B: 0, Least: 5}}}, nil},
		{regulation{2, []api.Tie{{A: 1, B: 0, Least: -3}, {A: 0, B: 1, Least: 3}}}, []int{0, 3}},
		{regulation{2, []api.Tie{{A: 0, B: 1, Least: 3}, {A: 1, B: -1, Least: -2}}}, nil}, // needs x0 >= 0
		{regulation{3, []api.Tie{{A: 2, B: 1, Least: 1}, {A: 1, B: 0, Least: 1}, {A: -1, B: 2, Least: 1}}}, []int{3, 2, 1}},
		{regulation{2, []api.Tie{{A: -1, B: 0, Least: 1000000}, {A: 0, B: 1, Least: 1000000}}}, []int{1000000, 2000000}},
	} {
		wantSolved(t, c.g, c.least)
	}
}

// TestClashExamples: where there is only one circle the clash is known but for where it begins.
func TestClashExamples(t *testing.T) {
	for _, c := range []struct {
		g    regulation
		want []int // sorted
	}{
		{regulation{2, []api.Tie{{A: -1, B: 0, Least: 3}, {A: 0, B: 1, Least: 2}, {A: 1, B: 0, Least: -1}}}, []int{1, 2}},
		{regulation{1, []api.Tie{{A: 0, B: -1, Least: 1}}}, []int{0, 1}},
		{regulation{3, []api.Tie{{A: 1, B: -1, Least: 1}}}, []int{0, 2}},
		{regulation{2, []api.Tie{{A: 0, B: 1, Least: 3}, {A: 1, B: -1, Least: -2}}}, []int{0, 1, 2}},
		{regulation{1, []api.Tie{{A: -1, B: -1, Least: 1}}}, []int{0}},
		{regulation{2, []api.Tie{{A: 0, B: 1, Least: -1}, {A: 1, B: 1, Least: 1}}}, []int{1}},
	} {
		clash, err := action.Clash(c.g.n, c.g.ties)
		slices.Sort(clash)
		wantList(t, "Clash", clash, err, c.want, api.OK)
		wantSolved(t, c.g, nil)
	}
}

func TestHighestExamples(t *testing.T) {
	two := regulation{2, []api.Tie{{A: -1, B: 0, Least: 3}, {A: 0, B: 1, Least: 2}}}
	bound := regulation{2, []api.Tie{{A: 0, B: -1, Least: -4}, {A: 0, B: 1, Least: 2}, {A: 1, B: 0, Least: -5}}}
	for _, c := range []struct {
		g        regulation
		top      int
		greatest []int
	}{
		{two, 9, []int{7, 9}},
		{two, 5, []int{3, 5}},
		{two, 4, nil},
		{two, 0, nil},
		{two, 1000000, []int{999998, 1000000}},
		{bound, 100, []int{4, 9}},
		{bound, 6, []int{4, 6}},
		{bound, 5, []int{3, 5}},
		{bound, 2, []int{0, 2}},
		{bound, 1, nil},
		{regulation{1, nil}, 0, []int{0}},
		{regulation{2, nil}, 7, []int{7, 7}},
		{regulation{1, []api.Tie{{A: -1, B: 0, Least: 1000000}}}, 1000000, []int{1000000}},
		{regulation{1, []api.Tie{{A: -1, B: 0, Least: 1000000}}}, 999999, nil},
		{regulation{1, []api.Tie{{A: 0, B: -1, Least: -1000000}}}, 1000000, []int{1000000}},
		{regulation{1, []api.Tie{{A: 0, B: -1, Least: 1}}}, 5, nil}, // x0 is -1 at most
		{regulation{1, []api.Tie{{A: 0, B: -1, Least: 0}}}, 5, []int{0}},
		{regulation{1, []api.Tie{{A: -1, B: -1, Least: 0}}}, 5, []int{5}},
		{regulation{1, []api.Tie{{A: -1, B: -1, Least: 1}}}, 5, nil},
		{regulation{1, []api.Tie{{A: 0, B: 0, Least: 1}}}, 5, nil},
		{regulation{1, []api.Tie{{A: -1, B: 0, Least: -9}}}, 5, []int{5}},
		{regulation{2, []api.Tie{{A: 1, B: 0, Least: 6}}}, 5, nil}, // x1 would be below 0
		{regulation{2, []api.Tie{{A: 1, B: 0, Least: 5}}}, 5, []int{5, 0}},
	} {
		wantHighest(t, c.g, c.top, c.greatest)
	}
}

func TestSlack(t *testing.T) {
	ties := []api.Tie{{A: -1, B: 0, Least: 3}, {A: 0, B: 1, Least: 2}, {A: 1, B: 0, Least: -1}, {A: 1, B: -1, Least: -9}, {A: -1, B: -1, Least: 4}, {A: 1, B: 1, Least: -4}}
	for _, c := range []struct {
		x, want []int
		err     api.Errno
	}{
		{[]int{3, 5}, []int{0, 0, -1, 4, -4, 4}, api.OK},
		{[]int{0, 0}, []int{-3, -2, 1, 9, -4, 4}, api.OK},
		{[]int{1000000000, 0}, []int{999999997, -1000000002, 1000000001, 9, -4, 4}, api.OK},
		{[]int{0, 1000000000}, []int{-3, 999999998, -999999999, -999999991, -4, 4}, api.OK},
		{nil, nil, api.ErrArg},
		{[]int{3}, nil, api.ErrArg},
		{[]int{3, 5, 7}, nil, api.ErrArg},
		{[]int{-1, 5}, nil, api.ErrArg},
		{[]int{3, -1}, nil, api.ErrArg},
		{[]int{1000000001, 5}, nil, api.ErrArg},
		{[]int{3, 1000000001}, nil, api.ErrArg},
		{[]int{math.MinInt, 5}, nil, api.ErrArg},
		{[]int{3, math.MaxInt}, nil, api.ErrArg},
	} {
		slack, err := action.Slack(2, ties, c.x)
		wantList(t, "Slack", slack, err, c.want, c.err)
	}
	slack, err := action.Slack(1, nil, []int{4})
	wantList(t, "Slack without ties", slack, err, nil, api.OK)
}

// bySearch returns the elementwise least and greatest one of all solutions with variables up to a top, or nil.
func (g regulation) bySearch(top int) (least, greatest []int) {
	x := make([]int, g.n)
	for {
		if g.holds(x) {
			if least == nil {
				least, greatest = slices.Clone(x), slices.Clone(x)
			}
			for i, value := range x {
				least[i], greatest[i] = min(least[i], value), max(greatest[i], value)
			}
		}
		i := 0
		for i < g.n && x[i] == top {
			x[i] = 0
			i++
		}
		if i == g.n {
			return least, greatest
		}
		x[i]++
	}
}

// byAllWays returns the least solution, and the greatest one with variables up to a top, from the longest ways between all places.
func (g regulation) byAllWays(top int) (least, greatest []int) {
	const none = math.MinInt / 4
	far := func(ties []api.Tie) [][]int {
		d := make([][]int, g.n+1)
		for i := range d {
			d[i] = slices.Repeat([]int{none}, g.n+1)
			d[i][i] = 0
		}
		for _, tie := range ties {
			d[tie.A+1][tie.B+1] = max(d[tie.A+1][tie.B+1], tie.Least)
		}
		for k := range d {
			for i := range d {
				for j := range d {
					if d[i][k] != none && d[k][j] != none {
						d[i][j] = min(1<<50, max(d[i][j], d[i][k]+d[k][j]))
					}
				}
			}
			for i := range d {
				if d[i][i] > 0 {
					return nil
				}
			}
		}
		return d
	}
	if d := far(g.all()); d != nil {
		least = d[0][1:]
	}
	ties := g.all()
	for i := range g.n {
		ties = append(ties, api.Tie{A: i, B: -1, Least: -top})
	}
	if d := far(ties); d != nil {
		for i := range g.n {
			greatest = append(greatest, -d[i+1][0])
		}
	}
	return least, greatest
}

func anyRegulation(r *rand.Rand, n, ties, low, high int) regulation {
	g := regulation{n: n}
	for range ties {
		g.ties = append(g.ties, api.Tie{A: between(r, -1, n-1), B: between(r, -1, n-1), Least: between(r, low, high)})
	}
	return g
}

// TestRegulateOfAll tries all values of few variables: promise A1.
func TestRegulateOfAll(t *testing.T) {
	r := newRand()
	none, noneHigh := 0, 0
	for range 3000 {
		n := between(r, 1, 3)
		g := anyRegulation(r, n, between(r, 0, 6), -4, between(r, 0, 3))
		least, greatest := g.bySearch(12) // no way of up to three ties is longer than that
		wantSolved(t, g, least)
		wantHighest(t, g, 12, greatest)
		top := between(r, 0, 9)
		_, greatest = g.bySearch(top)
		wantHighest(t, g, top, greatest)
		if least == nil {
			none++
		}
		if greatest == nil {
			noneHigh++
		}
	}
	if none < 500 || none > 2500 || noneHigh < none || noneHigh > 2700 {
		t.Errorf("%d and %d regulations of 3000 have no solution: this tests too little", none, noneHigh)
	}
}

// TestRegulateByAllWays compares larger regulations with a second method.
func TestRegulateByAllWays(t *testing.T) {
	r := newRand()
	none, noneHigh := 0, 0
	for i := range 400 {
		n := between(r, 4, []int{8, 20, 64}[i%3])
		high := []int{0, 3, 1000000}[r.Intn(3)]
		g := anyRegulation(r, n, between(r, 0, min(512, 4*n)), -high, high)
		if i%2 == 0 { // some of them hold for values that are hidden in them
			hidden := make([]int, n+1)
			for k := range n {
				hidden[k+1] = between(r, 0, high)
			}
			for k, tie := range g.ties {
				g.ties[k].Least = min(tie.Least, hidden[tie.B+1]-hidden[tie.A+1])
			}
		}
		top := []int{high, high / 2, min(1000000, 3*high), 1000000}[r.Intn(4)]
		least, greatest := g.byAllWays(top)
		wantSolved(t, g, least)
		wantHighest(t, g, top, greatest)
		if least == nil {
			none++
		}
		if greatest == nil {
			noneHigh++
		}
	}
	if none < 80 || none > 320 || noneHigh <= none || noneHigh > 350 {
		t.Errorf("%d and %d regulations of 400 have no solution: this tests too little", none, noneHigh)
	}
}

// ring returns a circle through all variables, and through the ground if it is asked for, in a random order,
// whose Leasts add up to a sum.
func ring(r *rand.Rand, n int, ground bool, least, sum int) regulation {
	g := regulation{n: n}
	order := r.Perm(n)
	if ground {
		order = append(order, -1)
	}
	for i, a := range order {
		g.ties = append(g.ties, api.Tie{A: a, B: order[(i+1)%len(order)], Least: least})
		sum -= least
	}
	g.ties[r.Intn(len(g.ties))].Least += sum
	r.Shuffle(len(g.ties), func(i, k int) { g.ties[i], g.ties[k] = g.ties[k], g.ties[i] })
	return g
}

// TestLongCircles: circles as long as they can be, which just clash or just do not.
func TestLongCircles(t *testing.T) {
	r := newRand()
	for i := range 200 {
		n := []int{64, 63, 2, 1}[i%4]
		for _, sum := range []int{-1, 0, 1, 2, 500000} {
			g := ring(r, n, i%3 == 0, []int{0, 1, -1, 3000, -3000}[i%5], sum)
			least, greatest := g.byAllWays(500000)
			if (least == nil) != (sum > 0) && n > 1 && i%3 != 0 {
				t.Fatalf("%v: the test is wrong", g)
			}
			wantSolved(t, g, least)
			wantHighest(t, g, 500000, greatest)
		}
	}
}

// TestRegulateGreatest: the greatest regulations are solved quickly, whatever the order of their ties.
func TestRegulateGreatest(t *testing.T) {
	r := newRand()
	for range 20 {
		g := regulation{n: 64}
		for i := 62; i >= 0; i-- { // a chain whose ties come last one first
			g.ties = append(g.ties, api.Tie{A: i, B: i + 1, Least: 1000000})
		}
		for len(g.ties) < 512 {
			a, b := between(r, 0, 63), between(r, 0, 63)
			g.ties = append(g.ties, api.Tie{A: max(a, b), B: min(a, b), Least: -1000000})
		}
		start := time.Now()
		x, err := action.Regulate(g.n, g.ties)
		if took := time.Since(start); took > time.Second {
			t.Errorf("Regulate took %v", took)
		}
		if err == api.OK && x[63] != 63000000 {
			t.Errorf("Regulate: %v", x)
		}
		least, _ := g.byAllWays(1000000)
		wantSolved(t, g, least)
	}
	chain := regulation{n: 64}
	want := make([]int, 64)
	for i := 62; i >= 0; i-- {
		chain.ties = append(chain.ties, api.Tie{A: i, B: i + 1, Least: 1000000})
		want[i+1] = 1000000 * (i + 1)
	}
	wantSolved(t, chain, want)
	wantHighest(t, chain, 1000000, nil)
}

// TestMoreTies: a solution of a regulation with more ties is not less, and one of Highest not greater.
func TestMoreTies(t *testing.T) {
	r := newRand()
	for range 500 {
		g := anyRegulation(r, between(r, 1, 12), between(r, 1, 24), -5, 2)
		x, err := action.Regulate(g.n, g.ties[1:])
		y, errMore := action.Regulate(g.n, g.ties)
		if errMore == api.OK && (err != api.OK || slices.ContainsFunc(places(g.n), func(i int) bool { return y[i] < x[i] })) {
			t.Fatalf("Regulate(%v): %v with one tie more, %v without", g, y, x)
		}
		x, err = action.Highest(g.n, g.ties[1:], 20)
		y, errMore = action.Highest(g.n, g.ties, 20)
		if errMore == api.OK && (err != api.OK || slices.ContainsFunc(places(g.n), func(i int) bool { return y[i] > x[i] })) {
			t.Fatalf("Highest(%v): %v with one tie more, %v without", g, y, x)
		}
	}
}

// places returns the numbers below n.
func places(n int) []int {
	list := make([]int, n)
	for i := range list {
		list[i] = i
	}
	return list
}
