package house_test

import (
	"fmt"
	"strings"
	"testing"

	"clavecin/api"
	"clavecin/house"
	"clavecin/temper"
)

func TestTone(t *testing.T) {
	h := house.New()
	wantTalk(t, h, `
> tone 0.0.0/1
tone 0.0.0/1 cents 0
> tone 0.0.1/4
tone 0.0.1/4 cents 696
> tone 7.0.0/12
tone 7.0.0/12 cents 700
> tone 4.-4.1/1
tone 4.-4.1/1 cents -22
> tone 960.0.0/1
tone 960.0.0/1 cents 1152000
`)
	wantFailure(t, h, api.ErrForm, "tone -1.1.0/01", "tone -2.2.0/2", "tone x", "tone -1.1.0", "tone 961.0.0/1", "tone 0.0.0/2", "tone 1.1.0/25", "tone +1.1.0/1", "tone -0.1.0/1", "tone -1.1.0/1\t")
}

func TestTemper(t *testing.T) {
	wantTalk(t, house.New(), `
> weigh fifth 0 0
! 8
> weigh third 99 9999
! 8
> ring 3 2 0 3 3 2 1000
> weigh fifth 0 0
> weigh third 0 0
> weigh third 1 0
> temper
steps 2 1 0
cost 1
> weigh third 2 0
> temper
steps 3 0 0
cost 0
> scale 1000 0
! 1
> closes 12
closes no
> ring 3 2 0 3 3 2 1000
> temper
steps 1 1 1
cost 3
> weigh third 2 1000
> weigh fifth 2 1000
> temper
steps 2 1 0
cost 7
`)
}

func TestRing(t *testing.T) {
	h := house.New()
	wantFailure(t, h, api.ErrArg,
		"ring 2 2 0 3 3 2 1000", "ring 25 2 0 3 3 2 1000", "ring 0 2 0 3 3 2 1000", "ring -1 2 0 3 3 2 1000", "ring 999999999999 2 0 3 3 2 1000", "ring -999999999999 2 0 3 3 2 1000", "ring 3 3 0 3 3 2 1000",
		"ring 5 5 0 3 3 2 1000", "ring 3 1 0 3 3 2 1000", "ring 3 2 -13 -12 3 2 1000", "ring 3 2 0 4 3 2 1000", "ring 3 2 0 -1 3 2 1000", "ring 3 2 0 3 289 2 1000", "ring 3 2 0 3 3 101 1000",
		"ring 3 2 0 3 3 2 1001", "ring 3 2 0 3 3 2 -1")
	wantFailure(t, h, api.ErrState, "temper", "weigh fifth 0 1")
	wantSilent(t, h, "ring 24 4 -12 -9 -288 -100 0", "ring 3 2 12 15 288 100 1000", "ring 4 3 1 2 5 3 9")
	// A ring that is refused leaves the one before, and its weights.
	wantSilent(t, h, "weigh third 3 7", "weigh fifth 1 8")
	was := h.Line("temper")
	wantFailure(t, h, api.ErrArg, "ring 2 2 0 3 3 2 1000", "weigh fifth -1 1", "weigh fifth 4 1", "weigh third 4 1", "weigh fifth 0 -1", "weigh fifth 0 1001", "weigh third 999999999999 1", "weigh third 0 -999999999999")
	wantReply(t, h, "temper", was)
	wantSilent(t, h, "weigh fifth 0 0", "weigh fifth 3 1000", "weigh third 0 1000", "weigh third 3 0")
	// What has no solution leaves the steps.
	wantSilent(t, h, "steps 1 2", "ring 3 2 0 3 3 1 0")
	was = h.Line("scale 1000000 12")
	wantFailure(t, h, api.ErrNone, "temper")
	wantReply(t, h, "scale 1000000 12", was)
}

// TestAnyRing compares with package temper.
func TestAnyRing(t *testing.T) {
	r := newRand()
	h := house.New()
	for range 200 {
		notes := between(r, 3, 8)
		ring := api.Ring{Notes: notes, Span: between(r, 2, min(4, notes-1)), Low: between(r, -2, 1), Total: between(r, 0, notes), Pure: between(r, 0, 5), Worst: between(r, 1, 6)}
		ring.High = ring.Low + between(r, 1, 3)
		wantSilent(t, h, fmt.Sprintf("ring %d %d %d %d %d %d %d", ring.Notes, ring.Span, ring.Low, ring.High, ring.Total, ring.Pure, ring.Worst))
		for i := range notes {
			ring.Fifth = append(ring.Fifth, 1)
			ring.Third = append(ring.Third, 1)
			if r.Intn(2) == 0 {
				ring.Fifth[i] = between(r, 0, 1000)
				wantSilent(t, h, fmt.Sprintf("weigh fifth %d %d", i, ring.Fifth[i]))
			}
			if r.Intn(2) == 0 {
				ring.Third[i] = between(r, 0, 1000)
				wantSilent(t, h, fmt.Sprintf("weigh third %d %d", i, ring.Third[i]))
			}
		}
		steps, cost, err := temper.Best(ring)
		if err != api.OK {
			wantFailure(t, h, err, "temper")
			continue
		}
		wantReply(t, h, "temper", fmt.Sprintf("steps%s\ncost %d\n", words(steps), cost))
		wantTones(t, h, steps, between(r, 1, 1000000000), between(r, 1, 24))
	}
}

// wantTones tests what a house tells of its steps.
func wantTones(t *testing.T, h *house.House, steps []int, base, units int) {
	t.Helper()
	want := func(word string, list []uint64, err api.Errno) {
		t.Helper()
		line := fmt.Sprintf("%s %d %d", word, base, units)
		if err != api.OK {
			wantFailure(t, h, err, line)
			return
		}
		wantReply(t, h, line, strings.Replace(word, "scale", "freq", 1)+words(list)+"\n")
	}
	list, err := temper.Scale(uint64(base), steps, units)
	want("scale", list, err)
	list, err = temper.Beats(uint64(base), steps, units)
	want("beats", list, err)
	closed, err := temper.Closes(steps, units)
	if err != api.OK {
		wantFailure(t, h, err, fmt.Sprintf("closes %d", units))
		return
	}
	wantReply(t, h, fmt.Sprintf("closes %d", units), map[bool]string{true: "closes yes\n", false: "closes no\n"}[closed])
}

func TestSteps(t *testing.T) {
	h := house.New()
	wantFailure(t, h, api.ErrState, "scale 1 1", "beats 1 1", "closes 1", "scale -1 1", "beats 0 99", "closes 0")
	wantFailure(t, h, api.ErrArg, "steps 13", "steps -13", "steps 1 2 13", "steps 1 -999999999999 2", "steps"+strings.Repeat(" 1", 25), "steps"+strings.Repeat(" 1", 2000))
	wantFailure(t, h, api.ErrState, "scale 1 1", "beats 1 1", "closes 1")
	wantTalk(t, h, `
> steps 1 1 1 1 1 1 1 1 1 1 1 1
> scale 440000000 12
freq 440000000 466163761 493883301 523251130 554365261 587329535 622253967 659255113 698456462 739988845 783990871 830609395
> beats 440000000 12
beats 1489774 2232135 1672213 2505489 1876993 2812317 2106855 1578359 2364864 1771648 2654471 1988605
> closes 12
closes yes
> closes 11
closes no
> steps 13
! 1
> closes 12
closes yes
> steps 0 0
> scale 440000000 1
freq 440000000 660000000
> beats 440000000 24
beats 0 0
> closes 12
closes no
> scale -1 1
! 1
> beats -1 1
! 1
> scale 0 1
! 1
> beats 0 1
! 1
> scale 1 0
! 1
> beats 1 25
! 1
> closes 0
! 1
> closes 25
! 1
> scale 1 24
freq 1 1
> steps 12 -12
> scale 999999999999 1
freq 999999999999 1274880829989
`)
	for _, steps := range [][]int{{0}, {12}, {-12}, {-12, 12, 7}, {12, 12, 12, 12, 12, 12, 12, 12, 12, 12, 12, 12, 12, 12, 12, 12, 12, 12, 12, 12, 12, 12, 12, 12}, {0, 1, 2, 3}} {
		wantSilent(t, h, "steps"+words(steps))
		for _, units := range []int{0, 1, 2, 7, 23, 24, 25, -1} {
			for _, base := range []int{0, 1, 440000000, 999999999999} {
				wantTones(t, h, steps, base, units)
			}
		}
	}
}
