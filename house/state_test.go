package house_test

import (
	"fmt"
	"strings"
	"testing"

	"clavecin/api"
	"clavecin/house"
)

// TestFull: lists that would become too long.
func TestFull(t *testing.T) {
	for _, c := range []struct {
		line  string
		most  int
		clear string
	}{
		{"metal 7800 1000", 4, "strings"}, {"course 3000 440000 38000 1", 96, "strings"}, {"jack 5 2", 64, "jacks"}, {"quill 5 3", 64, "jacks"}, {"tie 0 1 2", 512, "ties"},
		{"register 15 12 5 on", 4, "action"}, {"task 4 2 10", 32, "tasks"}, {"shape 2 3 10 turn", 16, "shapes"},
	} {
		h := houseOf(t, "gauges 300", "metal 7800 1000", "course 3000 440000 38000 1", "jack 5 2", "quill 5 3", "register 15 12 5 on", "task 4 2 10", "shape 2 3 10 turn", "tie 0 1 2", "tie -1 0 1", "action 2 10")
		wantSilent(t, h, "clear "+c.clear)
		for range c.most {
			wantSilent(t, h, c.line)
		}
		was := h.Clone()
		wantFailure(t, h, api.ErrFull, c.line, "try "+c.line, c.line)
		wantFailure(t, h, api.ErrForm, c.line+" x")
		wantSame(t, c.line, h, was)
		wantSilent(t, h, "clear "+c.clear, c.line)
	}
}

// TestMost: what the commands accept at the limits.
func TestMost(t *testing.T) {
	h := house.New()
	for i := range 64 {
		wantSilent(t, h, fmt.Sprintf("jack %d 0", i), fmt.Sprintf("quill %d 0", i))
	}
	numbers := make([]int, 64)
	for i := range numbers {
		numbers[i] = i
	}
	wantReply(t, h, "voice 1 1", fmt.Sprintf("quills%s\ncut%s\ncost 0\n", words(numbers), strings.Repeat(" 0", 64)))
	for i := range 512 {
		wantSilent(t, h, fmt.Sprintf("tie %d %d 1", i%63, i%63+1))
	}
	wantReply(t, h, "regulate 64", "heights"+words(numbers)+"\n")
	for range 32 {
		wantSilent(t, h, "task 1000 0 10000")
	}
	wantReply(t, h, "plan 0", fmt.Sprintf("days%s\nstart%s\nfinish 0 cost 320000000\n", strings.Repeat(" 0", 32), strings.Repeat(" 0", 32)))
	for range 16 {
		wantSilent(t, h, "shape 64 64 1000000 turn")
	}
	wantReply(t, h, "panel 64 64 0", "value 1000000 waste 0\ncounts 1"+strings.Repeat(" 0", 15)+"\n")
	for range 96 {
		wantSilent(t, h, "course 3000 440000 38426 1000")
	}
	strong := strings.Repeat(" 544", 15)
	wantSilent(t, h, "gauges 314 313 312 311 310 309 308 307 306 305 304 303 302 301 300 299", "metal 7800 544"+strong, "metal 7801 544"+strong, "metal 7800 544"+strong, "metal 7801 544"+strong)
	wantReply(t, h, "string 100 96", "picks"+strings.Repeat(" 0:14", 96)+"\ncost 0\npull 3688896\n")
	wantSilent(t, h, "register 1000 999 0 on", "register 1000 0 0 off", "register 1000 999 999 on", "register 1 0 0 on", "action 64 1000", "key 63 1000")
	wantReply(t, h, "ticks 10000", "pluck 1 63 3\npluck 1 63 0\npluck 1 63 2\n")
}

func TestGauges(t *testing.T) {
	h := houseOf(t, "metal 7800 544", "course 3000 440000 38426 1", "gauges 300")
	want := "picks 0:0\ncost 0\npull 38426\n"
	wantFailure(t, h, api.ErrFull, "gauges"+strings.Repeat(" 300", 17), "gauges"+strings.Repeat(" 0", 2000))
	wantReply(t, h, "string 100 0", want)
	wantSilent(t, h, "gauges"+strings.Repeat(" 300", 16))
	wantFailure(t, h, api.ErrArg, "string 100 0")
	wantSilent(t, h, "gauges -5", "gauges 300")
	wantReply(t, h, "string 100 0", want)
}

// TestBadValues: the values are only checked by the command that uses them.
func TestBadValues(t *testing.T) {
	for _, c := range []struct{ list, use, clear string }{
		{"metal -1 5", "string 100 0", "strings"}, {"metal 7800 5 5", "wire 100 0 0", "strings"}, {"metal 7800" + strings.Repeat(" 9", 1500), "string 100 0", "strings"}, {"course 0 -1 999999999999 0", "string 100 0", "strings"},
		{"gauges 0 0 0", "string 100 0", "strings"}, {"jack -1 -1", "voice 1 1", "jacks"}, {"quill 999999999999 0", "voice 1 1", "jacks"}, {"tie 5 5 5", "regulate 5", "ties"}, {"tie -2 0 0", "regulate 2", "ties"},
		{"register 0 0 0 on", "action 1 1", "action"}, {"task -1 0 0", "plan 10", "tasks"}, {"task 1 0 0 99", "curve", "tasks"}, {"task 1 0 0 0 0", "curve", "tasks"}, {"shape 0 0 0 fixed", "panel 5 5 0", "shapes"}, {"shape 1 1 1000001 turn", "saw 5 5 0", "shapes"},
	} {
		h := houseOf(t, "gauges 300", "metal 7800 544", "course 3000 440000 38426 1", "jack 1 1", "quill 1 1", "quill 2 2", "tie 0 1 1", "register 2 1 0 on", "task 1 1 1", "shape 2 2 2 turn", "post out store s0 99 out store m0g300 99999")
		if reply := h.Line("try " + c.use); strings.HasPrefix(reply, "!") {
			t.Errorf("%q: %q", c.use, reply)
		}
		wantSilent(t, h, c.list)
		wantFailure(t, h, api.ErrArg, c.use)
		wantSilent(t, h, "clear "+c.clear)
	}
}

// all gives a house something of everything.
func all() []string {
	return []string{
		"ring 3 2 0 3 3 2 1000", "weigh fifth 0 5", "weigh third 2 7", "temper", "gauges 400 300", "metal 7800 544 544", "metal 8500 592 593", "course 3000 440000 38000 2", "course 3000 440000 41000 3",
		"jack 5 2", "jack 3 0", "quill 3 2", "quill 6 4", "quill 5 1", "tie -1 0 3", "tie 0 1 2", "register 15 12 5 on", "register 18 4 4 off", "action 2 10", "key 0 20", "key 1 14", "ticks 1",
		"task 4 2 10", "task 3 3 0 0", "task 2 1 5 0 1", "shape 2 3 10 fixed", "shape 1 4 5 turn", "post outside store a 9 outside store s0 99", "saw 5 3 1", "post outside store m0g300 99999 outside store m1g300 99999", "wire 100 2 5", "reverse 1",
	}
}

// TestClear: what is removed, and that nothing else is.
func TestClear(t *testing.T) {
	without := map[string]string{
		"ring": "ring weigh temper", "strings": "gauges metal course wire", "jacks": "jack quill", "ties": "tie", "action": "register action key ticks", "tasks": "task", "shapes": "shape saw reverse",
	}
	for what, names := range without {
		var rest []string
		for _, line := range all() {
			name, _, _ := strings.Cut(line, " ")
			if !strings.Contains(" "+names+" ", " "+name+" ") {
				rest = append(rest, line)
			}
		}
		h := houseOf(t, all()...)
		wantSilent(t, h, "clear "+what)
		wantSameBut(t, what, h, houseOf(t, rest...))
		wantSilent(t, h, "clear "+what)
	}
	h := house.New()
	wantSilent(t, h, "clear ring", "clear strings", "clear jacks", "clear ties", "clear action", "clear tasks", "clear shapes")
	wantSame(t, "clear of nothing", h, house.New())
	wantTalk(t, houseOf(t, all()...), `
> clear ring
> temper
! 8
> weigh fifth 0 1
! 8
> closes 1
! 8
> clear strings
> string 100 0
! 1
> clear action
> ticks 1
! 8
> action 1 1
! 1
> clear jacks
> voice 1 1
! 1
> clear ties
> regulate 2
heights 0 0
> clear tasks
> curve
! 1
> clear shapes
> panel 2 3 0
value 0 waste 6
counts
`)
}

// wantSameBut tests that houses answer all questions alike that are not about their books.
func wantSameBut(t *testing.T, name string, h, other *house.House) {
	t.Helper()
	for _, line := range questions() {
		if strings.Contains(line, "post") || strings.Contains(line, "reverse") || line == "lots" || line == "book" {
			continue
		}
		if got, want := h.Line(line), other.Line(line); got != want {
			t.Errorf("clear %s: %q: %q, want %q", name, line, got, want)
		}
	}
}

// TestClone: each part of the state is copied, and shared with no other house.
func TestClone(t *testing.T) {
	changes := []string{
		"ring 4 2 0 3 4 2 1000", "weigh fifth 0 9", "weigh fifth 1 999", "weigh third 2 0", "weigh third 1 999", "temper", "steps 0 2", "gauges 400", "gauges 401 300", "metal 7801 544 544", "course 3000 440000 9 2", "jack 6 2", "quill 6 3", "tie 1 2 3", "register 3 2 1 on",
		"action 3 3", "key 0 0", "ticks 1", "ticks 9", "on 1", "off 0", "task 1 1 1 2", "shape 5 5 99 turn", "post outside store a 1", "reverse 0", "wire 100 1 0", "saw 5 3 1", "arm 1", "arm 2", "restart 0",
		"clear ring", "clear strings", "clear jacks", "clear ties", "clear action", "clear tasks", "clear shapes",
	}
	for _, armed := range []string{"", "arm 1", "arm 2", "arm 3"} {
		h := houseOf(t, append(all(), armed)...)
		answers := answersOf(h)
		for _, change := range changes {
			other := h.Clone()
			wantAnswers(t, "a clone", other, answers)
			reply := other.Line(change)
			wantAnswers(t, "a house behind "+change+" on its clone", h, answers)
			third := h.Clone()
			wantReply(t, third, change, reply)
			wantSame(t, "a clone behind "+change, third, other)
			wantReply(t, other, "post outside store a 2", third.Line("post outside store a 2"))
		}
	}
}

// TestCloneGrows: lists that grow in both houses, however much room they have.
func TestCloneGrows(t *testing.T) {
	h, twin := house.New(), house.New() // of which h is cloned again and again
	for i := range 4 {
		other := h.Clone()
		better := fmt.Sprintf("metal %d 900|tie 0 1 %d|shape 1 2 %d turn", 7800-9*i, 9+i, 3+i) // so that the last one matters
		for _, line := range append(strings.Split(better, "|"), "course 3000 440000 38000 2", "jack 1 0", "quill 1 1", "register 4 2 1 on", "task 9 1 1", "gauges 300") {
			wantSilent(t, h, line)
			wantSilent(t, twin, line)
		}
		wantSilent(t, other, "metal 8500 990", "course 2000 440000 41000 3", "jack 7 0", "quill 9 1", "tie 0 1 8", "register 5 4 3 on", "task 8 0 1", "shape 2 3 4 fixed")
		wantSame(t, "a house whose clone has grown", h, twin)
	}
	for _, line := range []string{"action 1 2", "key 0 10", "ticks 9", "key 0 0", "ticks 9"} {
		wantReply(t, h, line, twin.Line(line))
	}
}

func TestCloneBroken(t *testing.T) {
	h := houseOf(t, "post out a b 5", "arm 2")
	wantFailure(t, h, api.ErrDown, "post out a b 7")
	other := h.Clone()
	wantFailure(t, other, api.ErrState, "post out a b 7")
	wantSilent(t, other, "restart 99")
	wantReply(t, other, "lots", "lot a b 12\nlot out b -12\n")
	wantFailure(t, h, api.ErrState, "post out a b 7")
	wantSilent(t, h, "restart 0")
	wantReply(t, h, "lots", "lot a b 5\nlot out b -5\n")
	wantReply(t, other, "lots", "lot a b 12\nlot out b -12\n")
}
