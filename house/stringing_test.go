package house_test

import (
	"fmt"
	"math/rand"
	"slices"
	"strings"
	"testing"

	"clavecin/api"
	"clavecin/house"
	"clavecin/wire"
)

func TestStrings(t *testing.T) {
	wantTalk(t, house.New(), `
> string 100 0
! 1
> gauges 400 300
> metal 7800 544 544
> string 100 0
! 1
> course 3000 440000 38000 2
> string 100 0
picks 0:1
cost 852
pull 38426
> string 99 0
! 6
> string 0 0
! 1
> string 101 0
! 1
> string 100 97
! 1
> string 100 -1
! 1
> metal 8500 592 593
> course 3000 440000 41875 3
> string 100 0
picks 1:1 1:1
cost 7750
pull 83750
> string 100 1
picks 0:1 1:1
cost 852
pull 80301
> gauges 300 400
> string 100 1
! 1
> gauges 300
> string 100 1
! 1
> clear strings
> string 100 1
! 1
`)
}

// TestWire takes what the strings need out of the store.
func TestWire(t *testing.T) {
	h := houseOf(t, "gauges 400 300", "metal 7800 544 544", "metal 8500 592 593", "course 3000 440000 38000 2", "course 3000 440000 41875 3", "course 2999 440000 41875 3")
	wantTalk(t, h, `
> string 100 1
picks 0:1 1:1 1:1
cost 936
pull 122148
> wire 100 1 100
! 10
> post outside store m0g300 3100 outside store m1g300 6198
entry 0
> wire 100 1 100
! 10
> post outside store m1g300 1
entry 1
> wire 100 1 101
! 10
> wire 99 1 100
! 6
> wire 99 1 -1
! 6
> wire 100 1 -1
! 1
> wire 100 1 100001
! 1
> wire 0 1 100
! 1
> wire 100 1 100
entry 2
> lots
lot case m0g300 3100
lot case m1g300 6199
lot outside m0g300 -3100
lot outside m1g300 -6199
> book
post outside store m0g300 3100 outside store m1g300 6198
post outside store m1g300 1
post store case m0g300 3100 store case m1g300 6199
> wire 100 1 0
! 10
> reverse 2
entry 3
> wire 100 1 0
entry 4
> lots
lot case m0g300 3000
lot case m1g300 5999
lot outside m0g300 -3100
lot outside m1g300 -6199
lot store m0g300 100
lot store m1g300 200
`)
}

func TestCoils(t *testing.T) {
	h := house.New()
	wantTalk(t, h, `
> coils 10 5 5 5 5
coils 0 0 1 1
total 2
> coils 10 3 3 4 7 7 6
coils 0 1 2 0 1 2
total 3
> coils 10
coils
total 0
> coils 0
! 1
> coils 1000000001
! 1
> coils 10 0
! 1
> coils 10 11
! 3
> coils 10 11 -5
! 1
> coils 1000000000 1000000000
coils 0
total 1
`)
	wantReply(t, h, "coils 14"+strings.Repeat(" 1", 14), "coils"+strings.Repeat(" 0", 14)+"\ntotal 1\n")
	wantFailure(t, h, api.ErrArg, "coils 15"+strings.Repeat(" 1", 15), "coils 15"+strings.Repeat(" 1", 1500))
	r := newRand()
	for range 200 {
		coil := between(r, 1, 20)
		pieces := make([]int, r.Intn(9))
		for i := range pieces {
			pieces[i] = between(r, 1, coil)
		}
		coils, total, _ := wire.Coils(pieces, coil)
		wantReply(t, h, fmt.Sprintf("coils %d%s", coil, words(pieces)), fmt.Sprintf("coils%s\ntotal %d\n", words(coils), total))
	}
}

// TestAnyScaling compares with package wire.
func TestAnyScaling(t *testing.T) {
	r := newRand()
	found := 0
	for range 100 {
		s := anyScaling(r)
		h := houseOf(t, linesOf(s)...)
		line := fmt.Sprintf(" %d %d", s.Safety, s.Changes)
		picks, cost, err := wire.Best(s)
		if err != api.OK {
			wantFailure(t, h, err, "string"+line, "wire"+line+" 0")
			continue
		}
		found++
		chosen := ""
		for _, p := range picks {
			chosen += fmt.Sprintf(" %d:%d", p.Metal, p.Gauge)
		}
		pull, _ := wire.Pull(s, picks)
		wantReply(t, h, "string"+line, fmt.Sprintf("picks%s\ncost %d\npull %d\n", chosen, cost, pull))
		wantNeeds(t, h, s, picks, between(r, 0, 1000))
	}
	if found < 20 {
		t.Errorf("only %d scalings have strings", found)
	}
}

// wantNeeds takes wire out of a store that has exactly what is needed.
func wantNeeds(t *testing.T, h *house.House, s api.Scaling, picks []api.Pick, tail int) {
	t.Helper()
	needs, _ := wire.Needs(s, picks, tail)
	buy, take := "post", "post"
	for _, l := range needs {
		buy += fmt.Sprintf(" outside store %s %d", l.Item, l.Qty)
		take += fmt.Sprintf(" store case %s %d", l.Item, l.Qty)
	}
	wantReply(t, h, buy, "entry 0\n")
	wantReply(t, h, fmt.Sprintf("wire %d %d %d", s.Safety, s.Changes, tail), "entry 1\n")
	wantReply(t, h, "book", buy+"\n"+take+"\n")
	wantFailure(t, h, api.ErrStock, fmt.Sprintf("wire %d %d %d", s.Safety, s.Changes, tail))
}

func anyScaling(r *rand.Rand) api.Scaling {
	s := api.Scaling{Safety: between(r, 30, 100), Changes: between(r, 0, 5)}
	for range between(r, 1, 5) {
		s.Gauges = append(s.Gauges, between(r, 200, 500))
	}
	slices.Sort(s.Gauges)
	slices.Reverse(s.Gauges)
	s.Gauges = slices.Compact(s.Gauges)
	for range between(r, 1, 4) {
		m := api.Metal{Density: between(r, 7000, 9000)}
		for range s.Gauges {
			m.Strength = append(m.Strength, between(r, 500, 2000))
		}
		s.Metals = append(s.Metals, m)
	}
	for range between(r, 1, 12) {
		s.Courses = append(s.Courses, api.Course{Length: between(r, 2000, 4000), Freq: between(r, 300000, 500000), Target: between(r, 0, 60000), Weight: between(r, 0, 9)})
	}
	return s
}

// linesOf returns the lines that give a house a scaling.
func linesOf(s api.Scaling) []string {
	lines := []string{"gauges" + words(s.Gauges)}
	for _, m := range s.Metals {
		lines = append(lines, fmt.Sprintf("metal %d%s", m.Density, words(m.Strength)))
	}
	for _, c := range s.Courses {
		lines = append(lines, fmt.Sprintf("course %d %d %d %d", c.Length, c.Freq, c.Target, c.Weight))
	}
	return lines
}
