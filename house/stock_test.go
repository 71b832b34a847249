package house_test

import (
	"fmt"
	"slices"
	"strings"
	"testing"

	"clavecin/api"
	"clavecin/house"
)

func TestPost(t *testing.T) {
	wantTalk(t, house.New(), `
> lots
> book
> balance store plank
balance 0
> post outside store plank 5
entry 0
> post store bench plank 6
! 10
> post store bench plank 6 outside store plank 2
entry 1
> balance store plank
balance 1
> balance outside plank
balance -7
> balance nobody nothing
balance 0
> post a a b 1
! 1
> post outside store plank 0
! 1
> post outside store plank -1
! 1
> post outside store plank 1000000001
! 1
> post outside store plank 1000000000
entry 2
> post outside Store plank 1
! 1
> post outside store plank 1 outside store - 1
! 1
> post 1 2 3 4
! 1
> lots
lot bench plank 6
lot outside plank -1000000007
lot store plank 1000000001
> book
post outside store plank 5
post store bench plank 6 outside store plank 2
post outside store plank 1000000000
> post out z9 a 1 out y a 2 out y b 3
entry 3
> lots
lot bench plank 6
lot out a -3
lot out b -3
lot outside plank -1000000007
lot store plank 1000000001
lot y a 2
lot y b 3
lot z9 a 1
`)
}

func TestPostMany(t *testing.T) {
	h := house.New()
	wantReply(t, h, "post"+strings.Repeat(" out a b 1", 32), "entry 0\n")
	wantFailure(t, h, api.ErrArg, "post"+strings.Repeat(" out a b 1", 33), "post"+strings.Repeat(" out a b 1", 400))
	long := "post" + strings.Repeat(" outabcdefghi abcdefghijkl abcdefghijkl 1000000000", 32)
	wantReply(t, h, long, "entry 1\n")
	wantReply(t, h, "book", "post"+strings.Repeat(" out a b 1", 32)+"\n"+long+"\n")
	for i := range 33 {
		wantReply(t, h, long, fmt.Sprintf("entry %d\n", i+2))
	}
	wantReply(t, h, "balance abcdefghijkl abcdefghijkl", "balance 1088000000000\n")
	wantFailure(t, h, api.ErrRange, "post"+strings.Repeat(" outbcdefghij abcdefghijkl abcdefghijkl 1000000000", 32), "post"+strings.Repeat(" outbcdefghij abcdefghijkl abcdefghijkl 1000000000", 31)+" a b c 1")
}

// TestDiskFull: the disk takes 65536 bytes.
func TestDiskFull(t *testing.T) {
	h := house.New()
	long := "post" + strings.Repeat(" outabcdefghi abcdefghijkl abcdefghijkl 1", 32)
	count := 0
	for ; h.Line("try "+long) != "! 9\n"; count++ {
		wantReply(t, h, long, fmt.Sprintf("entry %d\n", count))
	}
	if count < 65536/(64*33) {
		t.Errorf("only %d entries", count)
	}
	was := h.Book()
	wantSilent(t, h, "arm 1")
	wantFailure(t, h, api.ErrFull, long, "reverse 0", long)
	wantFailure(t, h, api.ErrStock, "post a b c 1")
	wantReply(t, h, "book", was)
	wantReply(t, h, "post out a b 1", "! 11\n") // there is room for that one, and it is the first act
	wantSilent(t, h, "restart 0")
	wantReply(t, h, "book", was)
	wantReply(t, h, "post out a b 1", fmt.Sprintf("entry %d\n", count))
}

func TestReverse(t *testing.T) {
	wantTalk(t, house.New(), `
> reverse 0
! 1
> post outside store plank 5
entry 0
> post store bench plank 2 bench case plank 1 outside store wire 9
entry 1
> reverse 0
! 10
> reverse 2
! 1
> reverse -1
! 1
> reverse 999999999999
! 1
> reverse 1
entry 2
> reverse 0
entry 3
> lots
> reverse 3
entry 4
> book
post outside store plank 5
post store bench plank 2 bench case plank 1 outside store wire 9
post store outside wire 9 case bench plank 1 bench store plank 2
post store outside plank 5
post outside store plank 5
`)
}

func TestBalance(t *testing.T) {
	h := houseOf(t, "post outabcdefghi abcdefghijkl a23456789012 7 out z y 1")
	for _, name := range []string{"abcdefghijklm", "outsideoutside", "A", "aB", "9", "0a", "a-b", "a_b", "a\t", "é", "aé", "a\xff", "\xff", "`", "{", "a{", "a`", "a:", "a/", "-1", "!", "#", "a\x00", strings.Repeat("a", 2000)} {
		wantFailure(t, h, api.ErrArg, "balance "+name+" a", "balance a "+name, "balance "+name+" "+name, "balance abcdefghijkl "+name)
	}
	wantTalk(t, h, `
> balance abcdefghijkl a23456789012
balance 7
> balance outabcdefghi a23456789012
balance -7
> balance z y
balance 1
> balance y z
balance 0
> balance z z9
balance 0
> balance a23456789012 abcdefghijkl
balance 0
`)
}

// TestLots compares the functions with the replies.
func TestLots(t *testing.T) {
	h := houseOf(t, "post out b z 1 out b a 2", "post out a z 3 out a9 b 4", "post b out a 2")
	want := []api.Lot{{Account: "a", Item: "z", Qty: 3}, {Account: "a9", Item: "b", Qty: 4}, {Account: "b", Item: "z", Qty: 1}, {Account: "out", Item: "b", Qty: -4}, {Account: "out", Item: "z", Qty: -4}}
	lots := h.Lots()
	if !slices.Equal(lots, want) || !slices.Equal(stockOf(t, h.Line("lots")), want) {
		t.Errorf("Lots: %v, want %v", lots, want)
	}
	clear(lots[:cap(lots)])
	if !slices.Equal(h.Lots(), want) {
		t.Error("lots share memory with the house")
	}
	text := "post out b z 1 out b a 2\npost out a z 3 out a9 b 4\npost b out a 2\n"
	if h.Book() != text || h.Line("book") != text {
		t.Errorf("Book: %q, want %q", h.Book(), text)
	}
	empty := house.New()
	if len(empty.Lots()) != 0 || empty.Book() != "" {
		t.Error("a new house has something in its book")
	}
}

func TestCrash(t *testing.T) {
	wantTalk(t, house.New(), `
> post outside store a 5
entry 0
> arm 2
> post outside store a 7
! 11
> post outside store a 7
! 8
> lots
lot outside a -5
lot store a 5
> balance store a
balance 5
> book
post outside store a 5
> restart 0
> lots
lot outside a -5
lot store a 5
> post store bench a 1
entry 1
> arm 2
> post store bench a 2
! 11
> book
post outside store a 5
post store bench a 1
> restart 999
> book
post outside store a 5
post store bench a 1
post store bench a 2
> arm 1
> post store bench a 2
! 11
> restart 5
> arm 1
> reverse 0
! 10
> reverse 1
! 11
> restart -7
> lots
lot bench a 3
lot outside a -5
lot store a 2
> arm 3
> arm 0
> post store bench a 1
entry 3
> post store bench a 1
entry 4
> arm 1
> restart 0
> reverse 4
entry 5
> arm 2
> arm -9
> reverse 3
entry 6
`)
}

// TestBroken: errors that are checked before Post come first, and what does not post goes on.
func TestBroken(t *testing.T) {
	h := houseOf(t, "gauges 300", "metal 7800 544", "course 3000 440000 38000 2", "shape 2 3 10 fixed", "post out store m0g300 9000 out store s0 9", "arm 1")
	wantReply(t, h, "saw 5 3 1", "! 11\n")
	wantTalk(t, h, `
> wire 100 0 100
! 8
> wire 100 0 99999
! 8
> wire 99 0 100
! 6
> wire 100 0 -1
! 1
> wire 100 0
! 2
> saw 5 3 1
! 8
> saw 64 64 1
! 8
> saw 1 1 1
! 6
> saw 0 0 0
! 1
> post out a b 1
! 8
> post a a b 1
! 8
> post a b c 1
! 8
> post a b c x
! 2
> reverse 0
! 8
> reverse 9
! 8
> reverse -1
! 8
> reverse
! 2
> try post out a b 1
! 8
> try reverse 0
! 8
> arm 5
> panel 5 3 1
value 20 waste 3
counts 2
> string 100 0
picks 0:0
cost 852
pull 38426
> lots
lot out m0g300 -9000
lot out s0 -9
lot store m0g300 9000
lot store s0 9
> try restart 99
> saw 5 3 1
! 8
> clear shapes
> saw 5 3 1
! 6
> restart 99
> book
post out store m0g300 9000 out store s0 9
post store bench s0 2
> wire 100 0 100
entry 2
> arm 2
> wire 100 0 100
! 11
> wire 100 0 100
! 8
> restart 0
> wire 100 0 100
entry 3
> wire 100 0 100
! 10
`)
}
