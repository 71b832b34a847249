package house_test

import (
	"fmt"
	"math/rand"
	"slices"
	"strings"
	"testing"

	"clavecin/api"
	"clavecin/house"
)

func isFailure(reply string) bool { return strings.HasPrefix(reply, "!") }

// run returns the replies of a new house to lines, and that house.
func run(lines []string) ([]string, *house.House) {
	h := house.New()
	var replies []string
	for _, line := range lines {
		replies = append(replies, h.Line(line))
	}
	return replies, h
}

// TestAnyLines checks that the lines of the tests below are worth testing.
func TestAnyLines(t *testing.T) {
	r := newRand()
	done, failed := map[string]int{}, map[string]int{}
	for range 300 {
		lines := anyLines(r, 100)
		replies, _ := run(lines)
		for i, line := range lines {
			name, _, _ := strings.Cut(line, " ")
			if isFailure(replies[i]) {
				err, _, _ := strings.Cut(replies[i], "\n")
				failed[name+err]++
			} else {
				done[name]++
			}
		}
	}
	for _, line := range samples() {
		name, _, _ := strings.Cut(line, " ")
		if done[name] < 10 {
			t.Errorf("%s was done %d times only", name, done[name])
		}
	}
	for _, name := range []string{"post! 1", "post! 8", "post! 10", "post! 11", "wire! 6", "wire! 8", "wire! 10", "saw! 6", "saw! 8", "saw! 10", "reverse! 1", "reverse! 8", "reverse! 10", "reverse! 11", "saw! 11", "temper! 6", "temper! 8", "voice! 6", "regulate! 6", "plan! 6", "ticks! 8"} {
		if failed[name] < 3 {
			t.Errorf("%s happened %d times only", name, failed[name])
		}
	}
}

// TestBookAgain is promises H1 and P8: the printed book, run again, is the same book.
func TestBookAgain(t *testing.T) {
	r := newRand()
	for range 200 {
		_, h := run(anyLines(r, 100))
		text := h.Line("book")
		if strings.Count(text, "\n") > 2000 {
			t.Fatal("too many lines")
		}
		replies, err := house.Run(text + "lots\nbook\n")
		want := ""
		for i := range strings.Count(text, "\n") {
			want += fmt.Sprintf("entry %d\n", i)
		}
		if err != api.OK || replies != want+h.Line("lots")+text {
			t.Fatalf("%q: %q, error %d", short(text), short(replies), err)
		}
		again := house.New()
		for line := range strings.Lines(text) {
			again.Line(line)
		}
		if again.Book() != text || !slices.Equal(again.Lots(), h.Lots()) {
			t.Fatalf("%q is another book", short(text))
		}
	}
}

// TestRefused is promises H2 and P7: a line that is refused changes nothing.
func TestRefused(t *testing.T) {
	r := newRand()
	for range 150 {
		lines := anyLines(r, 100)
		replies, h := run(lines)
		other := house.New()
		for i, line := range lines {
			if !isFailure(replies[i]) || replies[i] == "! 11\n" {
				wantReply(t, other, line, replies[i])
			}
		}
		wantSame(t, "a house without what is refused", other, h)
		if t.Failed() {
			t.FailNow()
		}
	}
}

// TestRefusedEach: each line that is refused leaves the answers to all questions, whatever state the disk is in.
func TestRefusedEach(t *testing.T) {
	bad := []string{
		"ring 2 2 2 2 2 2 2", "weigh fifth 9 9", "weigh third 0 1001", "steps 13", "gauges" + strings.Repeat(" 1", 17), "metal 1", "action 0 0", "key 9 9", "key 0 1001", "ticks 10001", "on 9", "off -1", "clear x", "register 1 1 1 x", "shape 1 1 1 x",
		"post store bench a 1000", "post a a a 1", "post outside store a 5 x", "reverse 99", "reverse -1", "wire 1 0 0", "wire 100 2 100001", "saw 1 1 1", "saw 0 0 0", "arm x", "restart", "restart 1 2", "", "# x", "try x", "task 1 1", "voice 101 1", "plan -1", "scale -1 1",
	}
	for _, state := range [][]string{{}, {"arm 1"}, {"arm 2"}, {"arm 1", "post outside store a 1"}, {"arm 2", "post outside store a 1"}} {
		_, h := run(append(all(), state...))
		was := h.Clone()
		for _, line := range bad {
			reply := h.Line(line)
			if !isFailure(reply) && line != "" && line[0] != '#' {
				t.Errorf("%q: %q", line, reply)
			}
			wantSame(t, line, h, was)
		}
		wantReply(t, h, "post outside store a 2", was.Line("post outside store a 2"))
		wantSilent(t, h, "restart 99")
		wantSilent(t, was, "restart 99")
		wantSame(t, "restart", h, was)
	}
}

// TestEveryCrash takes the disk down in every act of a script, and keeps every number of bytes: promises H4 and P6.
func TestEveryCrash(t *testing.T) {
	lines := []string{
		"gauges 300", "metal 7800 544", "course 3000 440000 38000 2", "shape 2 3 10 fixed",
		"post outside store m0g300 10000 outside store s0 9", "wire 100 0 100", "saw 5 3 1", "post store bench s0 99", "reverse 1", "post bench store s0 1 store case m0g300 7", "reverse 9", "reverse 2", "reverse 4",
	}
	act := 1
	for ; ; act++ {
		crashed := false
		for keep := 0; keep < 60; keep++ {
			crashed = crash(t, lines, act, keep) || crashed
		}
		if !crashed {
			break
		}
	}
	if act != 13 {
		t.Errorf("%d acts, want 12: an Append and a Sync for each of 6 entries", act-1)
	}
}

// crash runs lines on a disk that goes down in an act, restarts it, does again what has failed, and goes on. It tells whether the disk went down.
func crash(t *testing.T, lines []string, act, keep int) bool {
	t.Helper()
	twin := house.New() // whose disk stays up
	h := house.New()
	wantSilent(t, h, fmt.Sprintf("arm %d", act))
	crashed := false
	for _, line := range lines {
		before := twin.Lots()
		reply, want := h.Line(line), twin.Line(line)
		if reply == "! 11\n" {
			crashed = true
			wantFailure(t, h, api.ErrState, "post out a b 1", "reverse 0")
			wantSilent(t, h, fmt.Sprintf("restart %d", keep))
			if slices.Equal(h.Lots(), before) {
				reply = h.Line(line)
			} else {
				reply = want
			}
		}
		if reply != want || !slices.Equal(h.Lots(), twin.Lots()) {
			t.Fatalf("act %d, keep %d: %q: %q, lots %v, want %q, %v", act, keep, line, reply, h.Lots(), want, twin.Lots())
		}
	}
	wantSilent(t, h, "arm 0")
	wantSame(t, "a house whose disk went down", h, twin)
	return crashed
}

// TestAnyCrash lets disks go down again and again, with lines of all kinds in between: promises H4, H5 and P6.
func TestAnyCrash(t *testing.T) {
	r := newRand()
	crashes := 0
	for range 300 {
		h := house.New()
		acknowledged := [][]api.Lot{nil} // the lots that there may be
		for _, line := range anyLines(r, 100) {
			ahead := h.Clone()
			ahead.Line("arm 0")
			reply := h.Line(line)
			switch {
			case strings.HasPrefix(line, "try "):
			case strings.HasPrefix(reply, "entry"):
				acknowledged = [][]api.Lot{h.Lots()}
			case reply == "! 11\n":
				crashes++
				ahead.Line(line)
				acknowledged = [][]api.Lot{h.Lots(), ahead.Lots()}
			}
			if !slices.ContainsFunc(acknowledged, func(lots []api.Lot) bool { return slices.Equal(lots, h.Lots()) }) {
				t.Fatalf("%q: the lots are %v, want one of %v", line, h.Lots(), acknowledged)
			}
			if strings.HasPrefix(line, "restart") {
				acknowledged = [][]api.Lot{h.Lots()}
			}
			wantSums(t, line, h)
		}
	}
	if crashes < 50 {
		t.Errorf("only %d crashes", crashes)
	}
}

// wantSums is promises H5 and P6: for each item all lots add up to 0, and no inside account is overdrawn.
func wantSums(t *testing.T, name string, h *house.House) {
	t.Helper()
	sums := map[string]int{}
	for _, l := range h.Lots() {
		sums[l.Item] += l.Qty
		if l.Qty == 0 || l.Qty < 0 && !strings.HasPrefix(l.Account, "out") {
			t.Fatalf("%s: %v", name, l)
		}
	}
	for item, sum := range sums {
		if sum != 0 {
			t.Fatalf("%s: the lots of %s add up to %d", name, item, sum)
		}
	}
}

// TestPieces is promise H6: a text begins with the replies to its beginning.
func TestPieces(t *testing.T) {
	r := newRand()
	for range 60 {
		lines := anyLines(r, between(r, 0, 60))
		replies, _ := run(lines)
		all, err := house.Run(strings.Join(lines, "\n"))
		if err != api.OK || all != strings.Join(replies, "") {
			t.Fatalf("Run: %q, error %d, want %q", short(all), err, short(strings.Join(replies, "")))
		}
		for i := range lines {
			begun, err := house.Run(strings.Join(lines[:i], "\n") + "\n")
			if err != api.OK || begun != strings.Join(replies[:i], "") {
				t.Fatalf("Run of %d lines: %q, error %d", i, short(begun), err)
			}
		}
	}
}

func TestRun(t *testing.T) {
	for _, c := range []struct{ text, want string }{
		{"", ""}, {"\n", ""}, {"\n\n\n", ""}, {"# x", ""}, {"post out a b 1", "entry 0\n"}, {"post out a b 1\n", "entry 0\n"}, {"\npost out a b 1\n\nlots", "entry 0\nlot a b 1\nlot out b -1\n"}, {"x\n", "! 2\n"}, {"x\ny", "! 2\n! 2\n"},
		{"post out a b 1\r\nlots\r\n", "! 2\n! 2\n"}, {"arm 1\npost out a b 1\npost out a b 1\nrestart 99\nbook\n", "! 11\n! 8\npost out a b 1\n"}, {strings.Repeat("x", 4096) + "\n" + strings.Repeat("x", 4097) + "\nlots", "! 2\n! 3\n"}, {" ", "! 2\n"},
		{"post out a b 1\ntry post out a b 1\npost out a b 1\n", "entry 0\nentry 1\nentry 1\n"},
		{strings.Repeat("\n", 1999), ""}, {strings.Repeat("\n", 2000), ""}, {strings.Repeat("\n", 1999) + "x", "! 2\n"}, {strings.Repeat("x\n", 2000), strings.Repeat("! 2\n", 2000)},
	} {
		got, err := house.Run(c.text)
		if got != c.want || err != api.OK {
			t.Errorf("Run(%q): %q, error %d, want %q", short(c.text), short(got), err, short(c.want))
		}
	}
	for _, text := range []string{strings.Repeat("\n", 2001), strings.Repeat("\n", 2000) + "x", strings.Repeat("#\n", 2000) + "#", strings.Repeat("post out a b 1\n", 2001), strings.Repeat("\n", 1<<20)} {
		if got, err := house.Run(text); got != "" || err != api.ErrLong {
			t.Errorf("Run(%q): %q, error %d", short(text), short(got), err)
		}
	}
	// Each run has a house of its own.
	for range 2 {
		if got, err := house.Run("post out a b 1\nlots"); got != "entry 0\nlot a b 1\nlot out b -1\n" || err != api.OK {
			t.Errorf("Run: %q, error %d", got, err)
		}
	}
}

// TestSameAgain is rule R6: the same lines have the same replies.
func TestSameAgain(t *testing.T) {
	r := newRand()
	for range 30 {
		text := strings.Join(anyLines(r, 150), "\n")
		first, _ := house.Run(text)
		for range 3 {
			if again, _ := house.Run(text); again != first {
				t.Fatalf("%q: %q, then %q", short(text), short(first), short(again))
			}
		}
	}
}

// TestPlucks is promise P5: a key that goes up and down once plucks each register that is on once.
func TestPlucks(t *testing.T) {
	r := newRand()
	for range 100 {
		h := house.New()
		want := map[string]int{}
		for reg := range 4 {
			pluck := between(r, 1, 60)
			back := r.Intn(pluck)
			on := r.Intn(3) > 0
			wantSilent(t, h, fmt.Sprintf("register %d %d %d %s", pluck, back, r.Intn(back+1), map[bool]string{true: "on", false: "off"}[on]))
			if on && pluck <= 50 {
				want[fmt.Sprintf("%d", reg)] = 1
			}
		}
		wantSilent(t, h, fmt.Sprintf("action 1 %d", between(r, 1, 30)))
		if got := plucks(r, h); !sameCounts(got, want) {
			t.Fatalf("plucks %v, want %v", got, want)
		}
	}
}

// plucks moves key 0 up to 50 and down to 0, in pieces, and counts the plucks of each register.
func plucks(r *rand.Rand, h *house.House) map[string]int {
	counts := map[string]int{}
	for _, line := range []string{"key 0 50", "ticks 1", "ticks 0", "ticks 2", "ticks 60", "key 0 0", "ticks 1", fmt.Sprintf("ticks %d", r.Intn(3)), "ticks 60"} {
		for event := range strings.Lines(h.Line(line)) {
			if words := strings.Fields(event); words[0] == "pluck" {
				counts[words[3]]++
			}
		}
	}
	return counts
}

func sameCounts(a, b map[string]int) bool {
	if len(a) != len(b) {
		return false
	}
	for key, n := range a {
		if b[key] != n {
			return false
		}
	}
	return true
}
