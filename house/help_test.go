package house_test

import (
	"fmt"
	"math/rand"
	"strconv"
	"strings"
	"testing"

	"clavecin/api"
	"clavecin/house"
)

// The signatures that the document lists.
var (
	_ func() *house.House                        = house.New
	_ func(*house.House, string) string          = (*house.House).Line
	_ func(*house.House) []api.Lot               = (*house.House).Lots
	_ func(*house.House) string                  = (*house.House).Book
	_ func(*house.House) *house.House            = (*house.House).Clone
	_ func(string) (replies string, _ api.Errno) = house.Run
)

func newRand() *rand.Rand { return rand.New(rand.NewSource(1)) }

// between returns a random number from low to high.
func between(r *rand.Rand, low, high int) int { return low + r.Intn(high-low+1) }

// short returns a text without its middle.
func short(text string) string {
	if len(text) > 600 {
		text = text[:300] + " .. " + text[len(text)-300:]
	}
	return text
}

// wantReply tests the reply to a line.
func wantReply(t *testing.T, h *house.House, line, want string) {
	t.Helper()
	if got := h.Line(line); got != want {
		t.Errorf("%q: %q, want %q", short(line), short(got), short(want))
	}
}

// wantTalk tests a talk: each line stands behind "> ", and before its reply.
func wantTalk(t *testing.T, h *house.House, talk string) {
	t.Helper()
	for _, part := range strings.Split(strings.TrimPrefix(talk, "\n"), "> ")[1:] {
		line, reply, _ := strings.Cut(part, "\n")
		wantReply(t, h, line, reply)
	}
}

// wantSilent does lines that have no reply.
func wantSilent(t *testing.T, h *house.House, lines ...string) {
	t.Helper()
	for _, line := range lines {
		wantReply(t, h, line, "")
	}
}

// wantFailure tests that lines are refused with an error.
func wantFailure(t *testing.T, h *house.House, err api.Errno, lines ...string) {
	t.Helper()
	for _, line := range lines {
		wantReply(t, h, line, fmt.Sprintf("! %d\n", err))
	}
}

// houseOf returns a house that has done lines that are no errors.
func houseOf(t *testing.T, lines ...string) *house.House {
	t.Helper()
	h := house.New()
	for _, line := range lines {
		if reply := h.Line(line); strings.HasPrefix(reply, "!") {
			t.Fatalf("%q: %q", short(line), reply)
		}
	}
	return h
}

// words returns numbers as words, each one with a blank before it.
func words[N int | uint64](numbers []N) string {
	text := ""
	for _, n := range numbers {
		text += fmt.Sprintf(" %d", n)
	}
	return text
}

// stockOf returns the lots that a reply of lots tells.
func stockOf(t *testing.T, reply string) []api.Lot {
	t.Helper()
	var lots []api.Lot
	for line := range strings.Lines(reply) {
		var l api.Lot
		if _, err := fmt.Sscanf(line, "lot %s %s %d\n", &l.Account, &l.Item, &l.Qty); err != nil {
			t.Fatalf("%q: %v", line, err)
		}
		lots = append(lots, l)
	}
	return lots
}

// questions are lines that change nothing: together they tell of all of a house's state.
func questions() []string {
	return []string{
		"scale 440000000 12", "beats 440000000 12", "closes 12", "closes 3", "try temper", "string 100 0", "string 90 3", "string 50 9", "voice 1 0", "voice 2 3",
		"regulate 1", "regulate 3", "regulate 5", "try ticks 30", "state 0 0", "state 1 0", "state 1 1", "try on 0", "try on 1", "try action 2 7", "plan 5", "plan 12", "curve",
		"panel 5 3 1", "panel 9 8 0", "panel 12 12 1", "lots", "book", "balance store a", "try post outside store a 1", "try reverse 0", "try restart 0", "try restart 7",
	}
}

// answersOf returns a house's answers to all questions.
func answersOf(h *house.House) []string {
	answers := []string{h.Book(), fmt.Sprint(h.Lots())}
	for _, line := range questions() {
		answers = append(answers, line+": "+h.Line(line))
	}
	return answers
}

// wantAnswers tests a house's answers to all questions.
func wantAnswers(t *testing.T, name string, h *house.House, want []string) {
	t.Helper()
	for i, answer := range answersOf(h) {
		if answer != want[i] {
			t.Fatalf("%s: %q, want %q", name, short(answer), short(want[i]))
		}
	}
}

// wantSame tests that two houses answer all questions alike.
func wantSame(t *testing.T, name string, h, other *house.House) {
	t.Helper()
	wantAnswers(t, name, h, answersOf(other))
}

// anyLines returns lines that make sense one after the other, often enough.
func anyLines(r *rand.Rand, count int) []string {
	list := []string{"post outside store s0 9 outside store s1 5 outside store m0g300 200000 outside store m0g290 200000"}
	for range count {
		list = append(list, anyLine(r))
	}
	return list
}

// anyLine returns a line made from a pattern: a|b is one of them, 2..5 a number from 2 to 5.
func anyLine(r *rand.Rand) string {
	if r.Intn(15) == 0 {
		return "try " + anyLine(r)
	}
	patterns := patterns()
	words := strings.Split(patterns[r.Intn(len(patterns))], " ")
	for i, word := range words {
		choice := strings.Split(word, "|")
		words[i] = choice[r.Intn(len(choice))]
		var low, high int
		if _, err := fmt.Sscanf(words[i], "%d..%d", &low, &high); err == nil {
			words[i] = strconv.Itoa(between(r, low, high))
		}
	}
	return strings.Join(words, " ")
}

func patterns() []string {
	return []string{
		"tone -1.1.0/1|0.0.1/4|2.2.0/2|x", "ring 3..5 2 0..1 2..4 2..8 1..4 1..9", "ring 3..5 2 0 3 3..5 2 1000", "weigh fifth|third|x -1..4 0..9", "temper", "temper",
		"steps 0..3 0..3 0..3", "steps -13..12", "scale -1..1000 0..25", "beats 0..100000 1..12", "closes 0..13",
		"gauges 300..305 290..300", "gauges 300 290", "gauges 300 290", "metal 7000..8000 500..2000 500..2000", "metal 7000..8000 900..2000 900..2000", "course 3000..9000 200000..400000 0..60000 0..5", "course 3000 300000 0..60000 0..5",
		"string 50..100 0..3", "string 90..100 2", "wire 50..100 0..3 0..100", "wire 90|100|x 2 -1..50", "coils 5..12 1..9 1..9 1..9", "coils 1..9",
		"jack 0..9 0..6", "quill 0..9 0..5", "quill 0..9 2..5", "voice -1..3 0..3", "voice 0..3 0..3", "clear jacks", "tie -1..2 -1..2 -5..5", "regulate 0..4",
		"register 5..20 3..6 0..4 on|off", "action 0..3 1..10", "key 0..2 0..25", "key 0 20|0", "ticks 0..5", "on 0..2", "off 0..2", "state 0..2 0..2",
		"task 0..5 0..3 0..9", "task 2..5 0..2 0..9 0..2", "plan 0..9", "curve", "shape 1..4 1..4 0..9 turn|fixed|x", "panel 1..8 1..8 0..2", "saw 1..8 1..8 0..2",
		"post outside|store|bench store|bench|case m0g300|s0|s1|a|A 0..20", "post out store a|s0|s1|m0g290 1..90", "post store bench a 1..9 out store a 1..9", "reverse 0..9",
		"balance store|bench|x a|s0|S", "lots", "book", "clear ring|strings|jacks|ties|action|tasks|shapes|x|y|z", "", "# x", "nothing", "try", " lots", "lots ", "lots  ",
		"arm 0..4", "restart 0..100", "restart 0", "restart 999",
	}
}
