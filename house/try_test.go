package house_test

import (
	"strings"
	"testing"

	"clavecin/api"
	"clavecin/house"
)

func TestTry(t *testing.T) {
	wantTalk(t, house.New(), `
> try post outside store a 5
entry 0
> lots
> post outside store a 5
entry 0
> try post store bench a 5
entry 1
> try post store bench a 6
! 10
> balance store a
balance 5
> try try lots
! 2
> try try
! 2
> try
! 2
> try 
! 2
> try  lots
! 2
> try lots 
! 2
> try tryx
! 2
> try #
> try # try
> try lots
lot outside a -5
lot store a 5
> try arm 1
> post store bench a 1
entry 1
> arm 2
> try post store bench a 1
! 11
> try post store bench a 1
! 11
> try arm 0
> try restart 0
> post store bench a 1
! 11
> try post store bench a 1
! 8
> try restart 99
> try arm 1
> restart 0
> book
post outside store a 5
post store bench a 1
> try ring 3 2 0 3 3 2 1000
> temper
! 8
> try steps 1 2
> closes 1
! 8
> ring 3 2 0 3 3 2 1000
> try temper
steps 1 1 1
cost 3
> closes 1
! 8
> try clear ring
> temper
steps 1 1 1
cost 3
> try tie 0 0 1
> regulate 1
heights 0
`)
}

// TestTryLength: the line behind try is one of its own, but both of them together are a line, too.
func TestTryLength(t *testing.T) {
	h := house.New()
	line := "#" + strings.Repeat("x", 4091) // with try before it: 4096 bytes
	wantSilent(t, h, line, "try "+line, line+"x")
	wantFailure(t, h, api.ErrLong, "try "+line+"x", "try #"+strings.Repeat("x", 5000), "try "+strings.Repeat(" ", 4093), "try try"+strings.Repeat(" ", 4096))
}

// TestTryAll is promise H3: whatever is tried, the house stays as it was, and the reply is that of the line.
func TestTryAll(t *testing.T) {
	r := newRand()
	for range 60 {
		plain, trying := house.New(), house.New()
		for _, line := range anyLines(r, 60) {
			for range 2 {
				tried := anyLine(r)
				want := plain.Clone().Line(tried)
				if tried == "" || strings.HasPrefix(tried+" ", "try ") {
					want = "! 2\n"
				}
				wantReply(t, trying, "try "+tried, want)
			}
			wantReply(t, trying, line, plain.Line(line))
		}
		wantSame(t, "a house that has tried", trying, plain)
		if t.Failed() {
			t.FailNow()
		}
	}
}

// TestTryAgain: what is tried can then be done.
func TestTryAgain(t *testing.T) {
	for _, lines := range [][]string{all(), append([]string{"arm 5"}, all()...)} {
		h := house.New()
		for _, line := range lines {
			reply := h.Line("try " + line)
			wantReply(t, h, "try "+line, reply)
			wantReply(t, h, line, reply)
		}
	}
}
