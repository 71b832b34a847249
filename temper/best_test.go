package temper_test

import (
	"fmt"
	"math/rand"
	"slices"
	"testing"

	"clavecin/api"
	"clavecin/temper"
)

// bestOfAll tries all steps.
func bestOfAll(g api.Ring) ([]int, int, api.Errno) {
	var best []int
	least := 0
	all(g, func(steps []int) {
		if !fits(g, steps) {
			return
		}
		_, total, allowed := cost(g, steps)
		if allowed && (best == nil || total < least) {
			best, least = slices.Clone(steps), total
		}
	})
	if best == nil {
		return nil, 0, api.ErrNone
	}
	return best, least, api.OK
}

// begun is what a circle may go on from: its first steps, its last ones, and their sum.
type begun struct {
	first, last string
	sum         int
}

// begunWay is the cheapest way to it, the lexicographically least one of those that cost the same.
type begunWay struct {
	steps string // a byte each, above Low
	cost  int
}

// bestForwards adds one step after the other and keeps the cheapest way to all that can go on in the same ways.
func bestForwards(g api.Ring) ([]int, int, api.Errno) {
	ways := map[begun]begunWay{{}: {}}
	for range g.Notes {
		ways = oneMore(g, ways)
	}
	var best []int
	least := 0
	for _, w := range ways {
		steps := make([]int, g.Notes)
		for i := range steps {
			steps[i] = g.Low + int(w.steps[i])
		}
		_, total, allowed := cost(g, steps)
		if !allowed || !fits(g, steps) {
			continue
		}
		if best == nil || total < least || total == least && slices.Compare(steps, best) < 0 {
			best, least = steps, total
		}
	}
	if best == nil {
		return nil, 0, api.ErrNone
	}
	return best, least, api.OK
}

// oneMore adds a step, and the third that it completes.
func oneMore(g api.Ring, ways map[begun]begunWay) map[begun]begunWay {
	next := map[begun]begunWay{}
	for b, w := range ways {
		for above := range g.High - g.Low + 1 {
			steps := w.steps + string([]byte{byte(above)})
			place := len(steps) - 1
			total := w.cost + g.Fifth[place]*(g.Low+above)*(g.Low+above)
			if place >= g.Span-1 {
				e := g.Pure - g.Span*g.Low
				for _, s := range []byte(steps[place+1-g.Span:]) {
					e -= int(s)
				}
				if e > g.Worst || e < -g.Worst {
					continue
				}
				total += g.Third[place+1-g.Span] * e * e
			}
			to := begun{first: steps[:min(len(steps), g.Span-1)], last: steps[max(0, len(steps)-g.Span+1):], sum: b.sum + above}
			old, ok := next[to]
			if !ok || total < old.cost || total == old.cost && steps < old.steps {
				next[to] = begunWay{steps: steps, cost: total}
			}
		}
	}
	return next
}

func wantBest(t *testing.T, g api.Ring, steps []int, total int, wantErr api.Errno) {
	t.Helper()
	got, c, err := temper.Best(g)
	wantList(t, fmt.Sprintf("Best(%v)", g), got, err, steps, wantErr)
	wantInt(t, fmt.Sprintf("Best(%v)", g), c, err, total, wantErr)
}

func TestBestExamples(t *testing.T) {
	wantBest(t, three(), []int{1, 1, 1}, 3, api.OK)
	g := three()
	g.Fifth, g.Third = []int{0, 1, 1}, repeat(3, 0)
	wantBest(t, g, []int{3, 0, 0}, 0, api.OK)
	wantBest(t, keyboard(), repeat(12, 1), 12+12*49, api.OK)
}

func TestBestTies(t *testing.T) {
	g := keyboard()
	g.Fifth, g.Third = repeat(12, 0), repeat(12, 0)
	wantBest(t, g, []int{0, 0, 0, 0, 0, 0, 0, 0, 3, 3, 3, 3}, 0, api.OK)
	g.Worst = 11 // just as wide as all thirds of steps of 0
	wantBest(t, g, []int{0, 0, 0, 0, 0, 0, 0, 0, 3, 3, 3, 3}, 0, api.OK)
	g.Worst = 10
	wantBest(t, g, []int{0, 0, 0, 1, 0, 0, 0, 1, 1, 3, 3, 3}, 0, api.OK)
}

func TestBestNone(t *testing.T) {
	g := keyboard()
	g.Total = 37
	wantBest(t, g, nil, 0, api.ErrNone)
	g.Total = 36
	wantBest(t, g, repeat(12, 3), 12*9+12, api.OK)
	g.Total = -1
	wantBest(t, g, nil, 0, api.ErrNone)
	g.Total = 0
	wantBest(t, g, repeat(12, 0), 12*121, api.OK)
	g.Worst = 10
	wantBest(t, g, nil, 0, api.ErrNone)
	g = three()
	g.Low, g.High, g.Total, g.Pure, g.Worst = 1, 1, 3, 2, 0
	wantBest(t, g, repeat(3, 1), 3, api.OK)
	g.Total = 2
	wantBest(t, g, nil, 0, api.ErrNone)
}

func TestBestOfAll(t *testing.T) {
	r := newRand()
	errs := map[api.Errno]int{}
	for range 1500 {
		g := anyRing(r, 3+r.Intn(5))
		steps, total, err := bestOfAll(g)
		wantBest(t, g, steps, total, err)
		errs[err]++
	}
	if errs[api.OK] < 100 || errs[api.ErrNone] < 100 {
		t.Errorf("too few cases of one kind: %v", errs)
	}
}

func TestBestForwards(t *testing.T) {
	r := newRand()
	for n := range 80 {
		g := anyRing(r, 8+r.Intn(17))
		if n%2 == 0 {
			g.Worst = 1000
		}
		if g.Span == 4 && g.High-g.Low == 3 {
			continue // takes long
		}
		steps, total, err := bestForwards(g)
		wantBest(t, g, steps, total, err)
	}
	g := anyRing(r, 24)
	for g.Span < 4 || g.High-g.Low < 3 {
		g = anyRing(r, 24)
	}
	g.Notes, g.Fifth, g.Third, g.Total = 14, g.Fifth[:14], g.Third[:14], 14*g.Low+20
	steps, total, err := bestForwards(g)
	wantBest(t, g, steps, total, err)
}

// greatest is the ring with the greatest costs.
func greatest(low int) api.Ring {
	g := api.Ring{Notes: 24, Span: 4, Low: low, High: low + 3, Pure: 100, Worst: 1000, Fifth: repeat(24, 1000), Third: repeat(24, 1000)}
	g.Total = min(288, max(-288, 24*low))
	return g
}

func TestBestGreatest(t *testing.T) {
	wantBest(t, greatest(-12), repeat(24, -12), 24*(1000*144+1000*148*148), api.OK)
	wantBest(t, greatest(12), repeat(24, 12), 24*(1000*144+1000*52*52), api.OK)
}

func rotated(list []int, by int) []int {
	return slices.Concat(list[by:], list[:by])
}

// TestRotation is promise M2, and M4 for large rings.
func TestRotation(t *testing.T) {
	r := newRand()
	for range 12 {
		g := anyRing(r, 13+r.Intn(12))
		g.Worst = 1000
		steps, total, err := temper.Best(g)
		if err != api.OK {
			t.Fatalf("Best(%v): error %d", g, err)
		}
		again, err := temper.Cost(g, steps)
		wantInt(t, "Cost of Best", again, err, total, api.OK)
		i, j, err := temper.Better(g, steps)
		wantList(t, "Better than Best", []int{i, j}, err, []int{-1, -1}, api.OK)
		by := r.Intn(g.Notes)
		h := copyRing(g)
		h.Fifth, h.Third = rotated(g.Fifth, by), rotated(g.Third, by)
		c, err := temper.Cost(h, rotated(steps, by))
		wantInt(t, "Cost, rotated", c, err, total, api.OK)
		_, c, err = temper.Best(h)
		wantInt(t, "Best, rotated", c, err, total, api.OK)
		wantNoneLess(t, r, g, steps, total)
	}
}

// wantNoneLess is promise M1, tested with steps that are near to the best ones.
func wantNoneLess(t *testing.T, r *rand.Rand, g api.Ring, steps []int, total int) {
	t.Helper()
	for range 2000 {
		other := slices.Clone(steps)
		for range 1 + r.Intn(4) {
			other[r.Intn(len(other))]--
			other[r.Intn(len(other))]++
		}
		_, c, allowed := cost(g, other)
		if !fits(g, other) || !allowed {
			continue
		}
		if c < total || c == total && slices.Compare(other, steps) < 0 {
			t.Fatalf("Best(%v) = %v, %d, but %v cost %d", g, steps, total, other, c)
		}
	}
}
